/- TilesAll. -/
import Derived.Test.YtjigdgfanpeibaaTC41
import Derived.Test.YtjigdgfanpeibaaTC43
import Derived.Test.YtjigdgfanpeibaaTC44
import Derived.Test.YtjigdgfanpeibaaTC45
import Derived.Test.YtjigdgfanpeibaaTC46
import Derived.Test.YtjigdgfanpeibaaTC24
namespace Go.Proofs.Ytjigdgfanpeibaa
open Go.RowKit

set_option maxRecDepth 20000 in
set_option maxHeartbeats 4000000 in
theorem tall_any (va : Value) (l : List Rc) (w h : Int) (W : World) (ha : Row encR 4 W va l) (hfa : ∀ r ∈ l, Fit r) :
    Makes Try.prog 4 #[va, .int .i64 w, .int .i64 h] W (.bool true) := by
  unfold Makes
  have hpw := szW_le w h
  have hph := szH_le w h
  have hsz := sz_both w h
  have hgr := fun u => grid_any w h u
  have hsp := fun v l u hv hf hl => split_any v l w h u hv hf hl
  have hto := fun v l u hv hf hl => touched_any v l w h u hv hf hl
  obtain ⟨pw, hpwe⟩ : ∃ p, szW w h = p := ⟨_, rfl⟩
  obtain ⟨ph, hphe⟩ : ∃ p, szH w h = p := ⟨_, rfl⟩
  rw [hpwe] at hpw hsp hto hgr hsz
  rw [hphe] at hph hsp hto hgr hsz
  have Hgr := Lib.hid hgr
  have Hsp := Lib.hid hsp
  have Hto := Lib.hid hto
  have Hpw := Lib.hid hpw
  have Hph := Lib.hid hph
  have Hsz := Lib.hid hsz
  have Ha := Lib.hid ha
  have Hfa := Lib.hid hfa
  obtain ⟨pa, ca, rfl, hca, hca', hpa⟩ := ha
  clear hsp hto hgr hpwe hphe hfa hsz hpa
  obtain ⟨na, hna⟩ : ∃ n, l.length = n := ⟨_, rfl⟩
  have Hna := Lib.hid hna
  rw [hna] at hca Ha ⊢
  clear hna
  by_cases hg : na > 16
  · have hs1 : decide ((na : Int) > 16) = true := by simp; omega
    go_enter Try.func4, Try.ntmps4
    go_wp2_with fail
    refine Calls.mono (tlWakes_any _) ?_
    rintro _ w5 ⟨rfl, hb5⟩
    have Hb5 := Lib.hid hb5
    clear hb5
    go_wp2
    go_ret
    exact ⟨rfl, Hb5.out⟩
  · have hs1 : decide ((na : Int) > 16) = false := by simp; omega
    go_enter Try.func4, Try.ntmps4
    go_wp2_with fail
    refine Calls.mono (Hgr.out W) ?_
    rintro _ w1 ⟨v1, rfl, ho1, hb1⟩
    have Hr1 := Lib.hid (owns_row' (enc := encR) (k := 4) (fun _ => rfl) ho1)
    obtain ⟨p1, c1, rfl⟩ := owns_slice ho1
    have Hb1 := Lib.hid hb1
    clear ho1 hb1
    go_wp2_with fail
    refine Calls.mono (Hsp.out _ l w1 (Ha.out.below Hb1.out) Hfa.out (by have := Hna.out; omega)) ?_
    rintro _ w2 ⟨v2, rfl, ho2, hb2⟩
    have Hr2 := Lib.hid (owns_row' (enc := encR) (k := 4) (fun _ => rfl) ho2)
    obtain ⟨p2, c2, rfl⟩ := owns_slice ho2
    have Hr1b := Lib.hid (Hr1.out.below hb2)
    have Hb2 := Lib.hid (Below.thn Hb1.out hb2)
    clear ho2 hb2 Hr1 Hb1
    go_wp2_with fail
    refine Calls.mono (Hto.out _ l w2 (Ha.out.below Hb2.out) Hfa.out (by have := Hna.out; omega)) ?_
    rintro _ w3 ⟨v3, rfl, ho3, hb3⟩
    have Hr3 := Lib.hid (Row.ownI ho3)
    obtain ⟨p3, c3, rfl⟩ := owns_slice ho3
    have Hr1c := Lib.hid (Hr1b.out.below hb3)
    have Hr2b := Lib.hid (Hr2.out.below hb3)
    have Hb3 := Lib.hid (Below.thn Hb2.out hb3)
    clear ho3 hb3 Hr1b Hr2 Hb2
    rcases Hsz.out with ⟨e1, e2, e3⟩ | ⟨e1, e2, e3, e4, e5⟩
    · have hN : tlN pw ph = 0 := by rw [e1]; unfold tlN clN; simp
      have hl1 : (grL pw ph).length = 0 := by unfold grL; simp [hN]
      have hl2 : (spL pw ph l).length = 0 := by unfold spL; simp [hN]
      have hl3 : (tcL pw ph l).length = 0 := by rw [tcL_eq, hN]; rfl
      rw [hl1, hl2, hl3]
      have htest : (decide (w < 1) || decide (w > 256) || decide (h < 1) || decide (h > 256)) = true := by
        unfold okS at e3
        simp; omega
      obtain ⟨s1, hs1⟩ : ∃ b, decide (w < 1) = b := ⟨_, rfl⟩
      obtain ⟨s2, hs2⟩ : ∃ b, decide (w > 256) = b := ⟨_, rfl⟩
      obtain ⟨s3, hs3⟩ : ∃ b, decide (h < 1) = b := ⟨_, rfl⟩
      obtain ⟨s4, hs4⟩ : ∃ b, decide (h > 256) = b := ⟨_, rfl⟩
      rw [hs1, hs2, hs3, hs4] at htest
      have Hb3' := Lib.hid Hb3.out
      clear e1 e2 e3 hN hl1 hl2 hl3
      cases s1 <;> cases s2 <;> cases s3 <;> cases s4 <;> first
        | (exact absurd htest (by decide))
        | (clear htest
           go_wp2_with fail
           refine Calls.mono (tlWakes_any _) ?_
           rintro _ w5 ⟨rfl, hb5⟩
           have Hb5 := Lib.hid (Below.thn Hb3.out hb5)
           clear hb5
           go_wp2
           go_ret
           exact ⟨rfl, Hb5.out⟩)
    · have hwb : 1 ≤ w ∧ w ≤ 256 := by unfold okS at e3; omega
      have hhb : 1 ≤ h ∧ h ≤ 256 := by unfold okS at e3; omega
      have s1 : decide (w < 1) = false := by simp; omega
      have s2 : decide (w > 256) = false := by simp; omega
      have s3 : decide (h < 1) = false := by simp; omega
      have s4 : decide (h > 256) = false := by simp; omega
      have HA := Lib.hid (grL_area hpw hph (by omega) (by omega))
      have hmul : pw * ph ≤ 65536 := Nat.mul_le_mul hpw hph
      obtain ⟨Ar, hAr⟩ : ∃ z, (pw : Int) * ph = z := ⟨_, rfl⟩
      have hArb : 0 ≤ Ar ∧ Ar ≤ 65536 := by rw [← hAr, ← Int.natCast_mul]; omega
      have HAr : Hid (IntKind.i64.wrap (w * h) = Ar) := Lib.hid (by rw [e4, e5, hAr]; exact IntWalk.i64_in _ (by omega))
      rw [hAr] at HA
      have Hfull := Lib.hid (grL_full hpw hph)
      have Hgp := Lib.hid (fun x y => grL_pix hpw hph x y)
      have Hgi : Hid (∀ i (hi : i < (grL pw ph).length), (grL pw ph)[i] = tlR pw ph i) := Lib.hid (fun i hi => by simp [grL])
      have Hgl : Hid ((grL pw ph).length = tlN pw ph) := Lib.hid (by unfold grL; simp)
      have HN := Lib.hid (tlN_le hpw hph)
      have Hpc : Hid (pcR pw ph = ⟨0, 0, w, h⟩) := Lib.hid (by unfold pcR; rw [e4, e5])
      obtain ⟨G, hG⟩ : ∃ G, grL pw ph = G := ⟨_, rfl⟩
      have Hgg := Lib.hid hG
      obtain ⟨N, hNe⟩ : ∃ n, tlN pw ph = n := ⟨_, rfl⟩
      rw [hG] at HA Hfull Hgp Hgi Hgl Hr1c ⊢
      rw [hNe] at Hgl HN
      rw [Hgl.out]
      have HNe := Lib.hid hNe
      clear e1 e2 e3 e4 e5 hmul hAr hG hNe
      go_upto_region 9 with (fail)
      have hly : Row encR 4 (w3.alloc (.cells #[.int .i64 0, .int .i64 0, .int .i64 w, .int .i64 h] 38)) (.slice (some ⟨w3.heap.size, 0, none⟩) 1 1) [⟨0, 0, w, h⟩] := litR rfl rfl (by simp [maxLen])
      have hb4 := Below.al1 w3 (.cells #[.int .i64 0, .int .i64 0, .int .i64 w, .int .i64 h] 38)
      rw [← Hpc.out] at hly
      generalize w3.alloc (.cells #[.int .i64 0, .int .i64 0, .int .i64 w, .int .i64 h] 38) = w4 at *
      have Hly := Lib.hid hly
      have Hb4 := Lib.hid (Below.thn Hb3.out hb4)
      have R1 := Lib.hid (Hr1c.out.below hb4)
      have R2 := Lib.hid (Hr2b.out.below hb4)
      have R3 := Lib.hid (Hr3.out.below hb4)
      obtain ⟨ball, hball⟩ : ∃ b, w3.heap.size = b := ⟨_, rfl⟩
      rw [hball] at Hly ⊢
      obtain ⟨S, hS⟩ : ∃ S, spL pw ph l = S := ⟨_, rfl⟩
      obtain ⟨TC, hTC⟩ : ∃ S, tcL pw ph l = S := ⟨_, rfl⟩
      rw [hS] at R2 ⊢
      rw [hTC] at R3 ⊢
      obtain ⟨nS, hnS⟩ : ∃ S', S.length = S' := ⟨_, rfl⟩
      obtain ⟨nC, hnC⟩ : ∃ S', TC.length = S' := ⟨_, rfl⟩
      have HS := Lib.hid hS
      have HTC := Lib.hid hTC
      have HnS := Lib.hid hnS
      have HnC := Lib.hid hnC
      have hnSb : nS ≤ 65536 := by rw [← hnS, ← hS]; exact spL_len hpw hph l
      have hnCb : nC ≤ 256 := by rw [← hnC, ← hTC]; exact tc_len hpw hph l
      rw [hnS, hnC]
      have R2' := R2.out
      have R1' := R1.out
      have R3' := R3.out
      rw [hnS] at R2'
      rw [Hgl.out] at R1'
      rw [hnC] at R3'
      obtain ⟨p1', c1', q1, -, -, hp1⟩ := R1'
      injection q1 with qa qb qc
      subst qa
      subst qc
      clear qb
      obtain ⟨p2', c2', q2, -, -, hp2⟩ := R2'
      injection q2 with qa qb qc
      subst qa
      subst qc
      clear qb
      obtain ⟨p3', c3', q3, -, -, hp3⟩ := R3'
      injection q3 with qa qb qc
      subst qa
      subst qc
      clear qb
      have Hp1 := Lib.hid hp1
      have Hp2 := Lib.hid hp2
      have Hp3 := Lib.hid hp3
      clear hly hb4 hball hS hTC hnS hnC hp1 hp2 hp3 Hr1c Hr2b Hr3 Hb3
      have hN256 := HN.out
      go_wp2_with fail
      go_loopw [11, 12] (fun nv iv wr => ∃ i : Nat, i ≤ N ∧ iv = .int .i64 (i : Int) ∧ nv = .int .i64 (areaS (G.take i)) ∧ Hid (Below w4.heap.size w4 wr)) (fun _ iv _ => N - (intOf iv).toNat)
      case atStart => exact ⟨0, Nat.zero_le _, rfl, rfl, Lib.hid (Below.refl _ _)⟩
      case round =>
        obtain ⟨i, hi, rfl, rfl, HB⟩ := hrel
        have hab := areaS_le G i
        rw [HA.out] at hab
        by_cases hin : i < N
        · have d1 : decide ((i : Int) < (N : Int)) = true := by simp; omega
          have hil : i < G.length := by rw [Hgl.out]; exact hin
          obtain ⟨b, off, rfl, -, hat⟩ := Hp1.out.rc hil
          obtain ⟨x0, x1, x2, x3⟩ := (hat i hil).later HB.out
          obtain ⟨f1, f2, f3⟩ := Hfull.out _ (List.getElem_mem hil)
          have hst := areaS_take G i hil
          have hab2 := areaS_le G (i + 1)
          rw [HA.out] at hab2
          obtain ⟨Q, hQ⟩ : ∃ z, areaS (G.take i) = z := ⟨_, rfl⟩
          obtain ⟨Q2, hQ2⟩ : ∃ z, areaS (G.take (i + 1)) = z := ⟨_, rfl⟩
          rw [hQ] at hst hab ⊢
          rw [hQ2] at hst hab2
          have HQ2 := Lib.hid hQ2
          generalize G[i] = r at *
          have hfit : Fit r := full_fit f1
          have Hemp := Lib.hid (fun u => empty_any r u hfit)
          rw [f1] at Hemp
          have Hare := Lib.hid (fun u => area_any r u hfit)
          have i0' : (0 : Int) ≤ (i : Int) := by omega
          have i1' : (i : Int) < (N : Int) := by omega
          have g2 : decide (r.a > 16) = false := by simp; omega
          have g3 : decide (r.b > 16) = false := by simp; omega
          have Hst := Lib.hid hst
          have Hx := Lib.hid (fun u (hb : Below wr.heap.size wr u) => And.intro (cell_later hb x0) (And.intro (cell_later hb x1) (And.intro (cell_later hb x2) (cell_later hb x3))))
          clear hat hil hQ hQ2 f1
          go_wp2_with fail
          refine Calls.mono (Hemp.out _) ?_
          rintro _ w5 ⟨rfl, hb5⟩
          obtain ⟨y0, y1, y2, y3⟩ := Hx.out w5 hb5
          have HB5 := Lib.hid (Below.thn HB.out hb5)
          clear hb5 x0 x1 x2 x3
          go_wp2_with fail
          refine Calls.mono (Hare.out _) ?_
          rintro _ w6 ⟨rfl, hb6⟩
          have HB6 := Lib.hid (Below.thn HB5.out hb6)
          have hwq : IntKind.i64.wrap (Q + areaR r) = Q2 := by rw [← hst]; exact IntWalk.i64_in _ (by omega)
          clear hb6 y0 y1 y2 y3 hst
          go_wp2
          go_roundw
          case rel => exact ⟨i + 1, by omega, by go_num, by rw [HQ2.out], HB6⟩
          case measure => simp [intOf]; omega
        · obtain rfl : i = N := by omega
          have d1 : decide ((i : Int) < (i : Int)) = false := by simp
          have hall : areaS (G.take i) = Ar := by rw [List.take_of_length_le (by rw [Hgl.out]; exact Nat.le_refl _)]; exact HA.out
          rw [hall]
          have hwa := HAr.out
          clear hab hall
          go_wp2_with fail
          refine Calls.mono (regSame_any _ _ G [pcR pw ph] wr (by have := R1.out.below HB.out; rw [Hgl.out] at this; exact this) (Hly.out.below HB.out) (fun r hr => full_fit (Hfull.out r hr).1) (fun r hr => by
            rcases List.mem_cons.1 hr with rfl | hr
            · exact ⟨by simp [pcR], by simp [pcR]⟩
            · cases hr) (by rw [Hgl.out]; simp; omega)) ?_
          rw [same_yes (fun x y => by rw [Hgp.out, show pix [pcR pw ph] x y = hasR (pcR pw ph) x y by simp [pix]])]
          rintro _ w5 ⟨rfl, hb5⟩
          have HB5 := Lib.hid (Below.thn HB.out hb5)
          clear hb5 HB hwa
          go_wp2_with fail
          have hSb : areaS S = areaS (formL (fun p q => p && q) l [pcR pw ph]) := by rw [← HS.out]; exact spL_area hpw hph l
          have hSA : areaS S ≤ Ar := by
            rw [hSb, area_form _ rfl, ← HA.out, ← sumP_list 2097152 2097152 rfl rfl G (by have := grL_apart hpw hph; rwa [Hgg.out] at this) (fun r hr => (Hfull.out r hr).1)]
            refine sumP_mono (fun x y => ?_) _ _
            rw [Hgp.out, show pix [pcR pw ph] x y = hasR (pcR pw ph) x y by simp [pix]]
            unfold ind
            cases pix l x y <;> cases hasR (pcR pw ph) x y <;> simp
          have HSb := Lib.hid hSb
          clear hSb
          go_loopw [11, 13, 14] (fun nv av kv w6 => ∃ k q : Nat, k ≤ nS ∧ kv = .int .i64 (k : Int) ∧ q ≤ i ∧ av = .int .i64 (q : Int) ∧ nv = .int .i64 (areaS (S.take k)) ∧ Hid (∀ m, k ≤ m → m < nS → q ≤ tgN pw ph l m) ∧ Hid (Below w4.heap.size w4 w6)) (fun _ _ kv _ => nS - (intOf kv).toNat)
          case atStart => exact ⟨0, 0, Nat.zero_le _, rfl, Nat.zero_le _, rfl, rfl, Lib.hid (fun _ _ _ => Nat.zero_le _), HB5⟩
          case round =>
            obtain ⟨k, q, hk, rfl, hq, rfl, rfl, Hq, HC⟩ := hrel
            have hab := areaS_le S k
            by_cases hkn : k < nS
            · have d2 : decide ((k : Int) < (nS : Int)) = true := by simp; omega
              have hkl : k < S.length := by rw [HnS.out]; exact hkn
              obtain ⟨b2, off2, rfl, -, hat⟩ := Hp2.out.rc hkl
              obtain ⟨ht, hrt⟩ := tg_at (w := pw) (h := ph) l (k := k) (r := S[k]) (by rw [HS.out]; exact List.getElem?_eq_getElem hkl)
              have hqt := Hq.out k (Nat.le_refl _) hkn
              have hmono := fun m (h1 : k ≤ m) (h2 : m < nS) => tg_mono (w := pw) (h := ph) l h1 (by rw [HS.out, HnS.out]; exact h2)
              have hfullr : emptyR S[k] = false := by have := spL_full pw ph l; rw [HS.out] at this; exact this _ (List.getElem_mem hkl)
              have hst := areaS_take S k hkl
              have hab2 := areaS_le S (k + 1)
              obtain ⟨Q, hQ⟩ : ∃ z, areaS (S.take k) = z := ⟨_, rfl⟩
              obtain ⟨Q2, hQ2⟩ : ∃ z, areaS (S.take (k + 1)) = z := ⟨_, rfl⟩
              rw [hQ] at hst hab ⊢
              rw [hQ2] at hst hab2
              have HQ2 := Lib.hid hQ2
              have Hx := Lib.hid (fun u (hb : Below w4.heap.size w4 u) => (hat k hkl).later hb)
              obtain ⟨t, hte⟩ : ∃ t, tgN pw ph l k = t := ⟨_, rfl⟩
              rw [hte] at ht hrt hqt hmono
              rw [HNe.out] at ht
              have hin : ∀ q', q' < i → inR S[k] (tlR pw ph q') = decide (q' = t) := fun q' hq' => in_tile hpw hph l (by rw [HNe.out]; exact ht) (by rw [HNe.out]; exact hq') hrt
              have Hin := Lib.hid hin
              have Hmono := Lib.hid hmono
              generalize S[k] = r at *
              have hfit : Fit r := full_fit hfullr
              have Hemp := Lib.hid (fun u => empty_any r u hfit)
              rw [hfullr] at Hemp
              have Hare := Lib.hid (fun u => area_any r u hfit)
              have k0 : (0 : Int) ≤ (k : Int) := by omega
              have k1 : (k : Int) < (nS : Int) := by omega
              have Hst := Lib.hid hst
              have HB7 := HC
              have Hrr := Lib.hid hfit
              clear hat hkl hQ hQ2 hfullr hrt hmono hin hte hfit
              go_wp2_with fail
              go_loopw [13] (fun av w7 => ∃ z : Nat, z ≤ t ∧ av = .int .i64 (z : Int) ∧ Hid (Below w4.heap.size w4 w7)) (fun av _ => t - (intOf av).toNat)
              case atStart => exact ⟨q, hqt, rfl, HB7⟩
              case round =>
                obtain ⟨z, hz, rfl, HZ⟩ := hrel
                have d3 : decide ((z : Int) < (i : Int)) = true := by simp; omega
                have hzl : z < G.length := by rw [Hgl.out]; omega
                obtain ⟨b1, off1, rfl, -, hat1⟩ := Hp1.out.rc hzl
                obtain ⟨a0, a1, a2, a3⟩ := (hat1 z hzl).later HZ.out
                rw [Hgi.out z hzl] at a0 a1 a2 a3
                obtain ⟨x0, x1, x2, x3⟩ := Hx.out _ HZ.out
                have hinz := Hin.out z (by omega)
                have z0 : (0 : Int) ≤ (z : Int) := by omega
                have z1 : (z : Int) < (i : Int) := by omega
                have HI := Lib.hid (fun u => in_any r (tlR pw ph z) u Hrr.out (and_fit _ _))
                rw [hinz] at HI
                obtain ⟨tb, htb⟩ : ∃ x, decide (z = t) = x := ⟨_, rfl⟩
                rw [htb] at HI
                have Htb := Lib.hid htb
                have Hfz : Hid True := Lib.hid trivial
                generalize tlR pw ph z = tz at *
                clear hat1 hzl hinz htb
                go_upto_region 23 with (fail)
                have hne := After.ne wr
                have A0 := After.rule a0
                have A1 := After.rule a1
                have A2 := After.rule a2
                have A3 := After.rule a3
                have X0 := After.rule x0
                have X1 := After.rule x1
                have X2 := After.rule x2
                have X3 := After.rule x3
                refine wp_region_after (by kernel_rfl) (by kernel_rfl) ?_
                repeat (go_big_quiet_step ((go_at_call 35; exact Makes.after (HI.out _))))
                refine wpQuiet_nil ?_
                rintro _ ⟨nq, rfl⟩
                have HZ2 := Lib.hid (Below.thn HZ.out nq.below)
                clear hne A0 A1 A2 A3 X0 X1 X2 X3 a0 a1 a2 a3 x0 x1 x2 x3
                generalize nq.world = w8 at *
                cases tb with
                | false =>
                  have hzt : z ≠ t := of_decide_eq_false Htb.out
                  have Hzt := Lib.hid (show z + 1 ≤ t by omega)
                  go_wp2
                  go_roundw
                  case rel => exact ⟨z + 1, Hzt.out, by go_num, HZ2⟩
                  case measure => have := Hzt.out; simp [intOf]; omega
                | true =>
                  obtain rfl : z = t := of_decide_eq_true Htb.out
                  have d4 : decide ((z : Int) = (i : Int)) = false := by simp; omega
                  have d5 : ((z : Int) == (i : Int)) = false := by simp; omega
                  obtain ⟨x0, x1, x2, x3⟩ := Hx.out _ HZ2.out
                  go_wp2_with fail
                  refine Calls.mono (Hemp.out _) ?_
                  rintro _ w9 ⟨rfl, hb9⟩
                  have HZ3 := Lib.hid (Below.thn HZ2.out hb9)
                  obtain ⟨y0, y1, y2, y3⟩ := Hx.out _ HZ3.out
                  clear x0 x1 x2 x3 hb9
                  go_wp2_with fail
                  refine Calls.mono (Hare.out _) ?_
                  rintro _ w10 ⟨rfl, hb10⟩
                  have hwq : IntKind.i64.wrap (Q + areaR r) = Q2 := by rw [← Hst.out]; exact IntWalk.i64_in _ (by omega)
                  have HZ4 := Lib.hid (Below.thn HZ3.out hb10)
                  clear hb10 y0 y1 y2 y3
                  go_wp2
                  refine ⟨⟨k + 1, z, by omega, by simp, by omega, rfl, by rw [HQ2.out, Hst.out], Lib.hid (fun m h1 h2 => Hmono.out m (by omega) h2), HZ4⟩, ?_⟩
                  simp [intOf]; omega
            · obtain rfl : k = nS := by omega
              have d2 : decide ((k : Int) < (k : Int)) = false := by simp
              have hall2 : areaS (S.take k) = areaS S := by rw [List.take_of_length_le (by rw [HnS.out]; exact Nat.le_refl _)]
              rw [hall2]
              clear hall2 hab
              obtain ⟨AS, hAS⟩ : ∃ z, areaS S = z := ⟨_, rfl⟩
              rw [hAS] at hSA HSb ⊢
              have hfp : Fit (pcR pw ph) := ⟨by simp [pcR], by simp [pcR]⟩
              have Hfp := Lib.hid (show ∀ r ∈ [pcR pw ph], Fit r from fun r hr => by
                rcases List.mem_cons.1 hr with rfl | hr
                · exact hfp
                · cases hr)
              clear hAS hfp
              go_wp2_with fail
              refine Calls.mono (regAnd_any _ _ l [pcR pw ph] wr (Ha.out.below (Below.thn Hb4.out HC.out)) (Hly.out.below HC.out) Hfa.out Hfp.out (by have := Hna.out; simp; omega) (form_len _ rfl _ _)) ?_
              obtain ⟨I, hI⟩ : ∃ I, formL (fun p q => p && q) l [pcR pw ph] = I := ⟨_, rfl⟩
              have HI := Lib.hid hI
              have hIl : I.length ≤ 65536 := by
                have h1 := len_area I (by rw [← hI]; exact form_full _ rfl _ _)
                have h2 := HSb.out
                rw [hI] at h2
                omega
              rw [hI] at HSb ⊢
              rintro _ w11 ⟨v11, rfl, ho11, hb11⟩
              have Hr11 := Lib.hid (owns_row' (enc := encR) (k := 4) (fun _ => rfl) ho11)
              obtain ⟨p11, c11, rfl⟩ := owns_slice ho11
              have HB11 := Lib.hid (Below.thn HC.out hb11)
              have HfI := Lib.hid (show ∀ r ∈ I, Fit r by rw [← hI]; exact form_fit _ rfl _ _)
              clear ho11 hb11 hI HC
              go_wp2_with fail
              refine Calls.mono (regArea_any _ I w11 Hr11.out HfI.out (by omega)) ?_
              have hAI : areaS (formL (fun p _ => p) I []) = AS := by
                have e : formL (fun p _ => p) I [] = I := by
                  rw [← HI.out]
                  exact form_unique rfl rfl (fun x y => by rw [pix_form _ rfl])
                rw [e, ← HSb.out]
              rw [hAI]
              rintro _ w12 ⟨rfl, hb12⟩
              have HB12 := Lib.hid (Below.thn HB11.out hb12)
              have Hr12 := Lib.hid (Hr11.out.below hb12)
              clear hb12 hAI Hr11
              go_wp2_with fail
              refine Calls.mono (regSame_any _ _ S I w12 (by have := R2.out.below HB12.out; rw [HnS.out] at this; exact this) Hr12.out (fun r hr => by rw [← HS.out] at hr; exact spL_fit _ _ _ r hr) HfI.out (by have := HnS.out; omega)) ?_
              rw [same_yes (fun x y => by rw [← HS.out, ← HI.out, spL_pix hpw hph, pix_form _ rfl, show pix [pcR pw ph] x y = hasR (pcR pw ph) x y by simp [pix]])]
              rintro _ w13 ⟨rfl, hb13⟩
              have HB13 := Lib.hid (Below.thn HB12.out hb13)
              clear hb13 Hr12
              go_wp2_with fail
              have HTF : Hid (TC = (List.range i).filter (tchB pw ph l)) := Lib.hid (by rw [← HTC.out, tcL_eq, HNe.out])
              go_loopw [16, 17] (fun kv iv w14 => ∃ j : Nat, j ≤ i ∧ iv = .int .i64 (j : Int) ∧ kv = .int .i64 ((cntA (tchB pw ph l) (List.range i) j : Nat) : Int) ∧ Hid (Below w4.heap.size w4 w14)) (fun _ iv _ => i - (intOf iv).toNat)
              case atStart => exact ⟨0, Nat.zero_le _, rfl, rfl, HB13⟩
              case round =>
                obtain ⟨j, hj, rfl, rfl, HZ⟩ := hrel
                have hcx : cntA (tchB pw ph l) (List.range i) j ≤ nC := by rw [← HnC.out, HTF.out]; exact cntA_le _ _ _
                by_cases hjn : j < i
                · have d5 : decide ((j : Int) < (i : Int)) = true := by simp; omega
                  have hjl : j < G.length := by rw [Hgl.out]; exact hjn
                  obtain ⟨b1, off1, rfl, -, hat1⟩ := Hp1.out.rc hjl
                  obtain ⟨a0, a1, a2, a3⟩ := (hat1 j hjl).later HZ.out
                  rw [Hgi.out j hjl] at a0 a1 a2 a3
                  have htc := tch_cut hpw hph l (i := j) (by rw [HNe.out]; exact hjn)
                  rw [HS.out] at htc
                  have hso := side_of (A := tchB pw ph l) (t := List.range i) (j := j) (by simpa using hjn) HTF.out
                  rw [List.getElem_range, HnC.out] at hso
                  obtain ⟨q, hq⟩ : ∃ q, cntA (tchB pw ph l) (List.range i) j = q := ⟨_, rfl⟩
                  obtain ⟨q', hq'⟩ : ∃ q, cntA (tchB pw ph l) (List.range i) (j + 1) = q := ⟨_, rfl⟩
                  rw [hq] at hso hcx ⊢
                  rw [hq'] at hso
                  have Hq' := Lib.hid hq'
                  have Hso := Lib.hid hso
                  have Htc := Lib.hid htc
                  obtain ⟨tz, htz⟩ : ∃ r, tlR pw ph j = r := ⟨_, rfl⟩
                  rw [htz] at a0 a1 a2 a3 Htc
                  have hfz : Fit tz := by rw [← htz]; exact and_fit _ _
                  have Hfz := Lib.hid (show ∀ r ∈ [tz], Fit r from fun r hr => by
                    rcases List.mem_cons.1 hr with rfl | hr
                    · exact hfz
                    · cases hr)
                  have j0 : (0 : Int) ≤ (j : Int) := by omega
                  have j1 : (j : Int) < (i : Int) := by omega
                  clear hat1 hjl htc hso hq hq' htz hfz
                  go_wp2_with fail
                  have hlz : Row encR 4 (wr.alloc (.cells #[.int .i64 tz.x, .int .i64 tz.y, .int .i64 tz.a, .int .i64 tz.b] 38)) (.slice (some ⟨wr.heap.size, 0, none⟩) 1 1) [tz] := litR rfl rfl (by simp [maxLen])
                  have HZ2 := Lib.hid (Below.thn HZ.out (Below.al1 wr (.cells #[.int .i64 tz.x, .int .i64 tz.y, .int .i64 tz.a, .int .i64 tz.b] 38)))
                  generalize wr.alloc (.cells #[.int .i64 tz.x, .int .i64 tz.y, .int .i64 tz.a, .int .i64 tz.b] 38) = w14 at *
                  refine Calls.mono (regAnd_any _ _ S [tz] w14 (by have := R2.out.below HZ2.out; rw [HnS.out] at this; exact this) hlz (fun r hr => by rw [← HS.out] at hr; exact spL_fit _ _ _ r hr) Hfz.out (by have := HnS.out; simp; omega) (form_len _ rfl _ _)) ?_
                  obtain ⟨J, hJ⟩ : ∃ J, formL (fun p q => p && q) S [tz] = J := ⟨_, rfl⟩
                  rw [hJ] at Htc ⊢
                  rintro _ w15 ⟨v15, rfl, ho15, hb15⟩
                  obtain ⟨p15, c15, rfl⟩ := owns_slice ho15
                  have HZ3 := Lib.hid (Below.thn HZ2.out hb15)
                  clear ho15 hb15 hlz hJ a0 a1 a2 a3
                  obtain ⟨nJ, hnJ⟩ : ∃ n, J.length = n := ⟨_, rfl⟩
                  have HnJ := Lib.hid hnJ
                  rw [hnJ]
                  clear hnJ
                  rcases Hso.out with ⟨hA, -, eA, cA, lA⟩ | ⟨hA, -, eA⟩
                  · have hJ1 : 0 < nJ := by
                      rw [Htc.out] at hA
                      rw [← HnJ.out]
                      cases J with
                      | nil => simp at hA
                      | cons x xs => simp
                    have g1 : decide ((nJ : Int) > 0) = true := by simp; omega
                    obtain ⟨b3, off3, rfl, xT⟩ := (Hp3.out.below HZ3.out).natI' cA
                    have g2 : decide ((q : Int) ≥ (nC : Int)) = false := by simp; omega
                    have EA := Lib.hid eA
                    clear eA hA cA
                    go_wp2
                    go_roundw
                    case rel => exact ⟨j + 1, by omega, by go_num, by rw [Hq'.out, EA.out]; go_num, HZ3⟩
                    case measure => simp [intOf]; omega
                  · have hJ1 : nJ = 0 := by
                      rw [Htc.out] at hA
                      rw [← HnJ.out]
                      cases J with
                      | nil => rfl
                      | cons x xs => simp at hA
                    subst hJ1
                    have g1 : decide (((0 : Nat) : Int) > 0) = false := by simp
                    have EA := Lib.hid eA
                    clear eA hA
                    go_wp2
                    go_roundw
                    case rel => exact ⟨j + 1, by omega, by go_num, by rw [Hq'.out, EA.out], HZ3⟩
                    case measure => simp [intOf]; omega
                · obtain rfl : j = i := by omega
                  have d5 : decide ((j : Int) < (j : Int)) = false := by simp
                  have hex : cntA (tchB pw ph l) (List.range j) j = nC := by
                    rw [← HnC.out, HTF.out]
                    have := cntA_all (tchB pw ph l) (List.range j)
                    rwa [List.length_range] at this
                  rw [hex]
                  clear hcx hex
                  go_wp2_with fail
                  refine Calls.mono (tlWakes_any _) ?_
                  rintro _ w16 ⟨rfl, hb16⟩
                  have Hb16 := Lib.hid (Below.thn Hb4.out (Below.thn HZ.out hb16))
                  clear hb16
                  go_wp2
                  go_ret
                  exact ⟨rfl, Hb16.out⟩

end Go.Proofs.Ytjigdgfanpeibaa
