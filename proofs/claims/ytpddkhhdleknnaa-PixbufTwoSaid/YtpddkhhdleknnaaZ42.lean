/- The walk of the document's Diff. -/
import Derived.Test.YtpddkhhdleknnaaZ41
import Derived.Test.YtpddkhhdleknnaaZ9
import Derived.Test.YtpddkhhdleknnaaZ20
import Derived.Deep.RegionLaw
import Derived.Deep.DeepCutAuto
import Derived.BigQuiet
namespace Go.Proofs.Ytpddkhhdleknnaa
open Go.RowKit

theorem place_in {j i wd ht : Nat} (hj : j < ht) (hi : i < wd) (h1 : wd ≤ 256) (h2 : ht ≤ 256) : IntKind.i64.wrap ((j : Int) * (wd : Int)) = ((j * wd : Nat) : Int) ∧ IntKind.i64.wrap (((j * wd : Nat) : Int) + (i : Int)) = ((j * wd + i : Nat) : Int) := by
  have h3 : j * wd ≤ 256 * 256 := Nat.mul_le_mul (by omega) (by omega)
  constructor
  · rw [← Int.natCast_mul]; exact IntWalk.i64_in _ (by omega)
  · rw [← Int.natCast_add]; exact IntWalk.i64_in _ (by omega)

set_option maxRecDepth 100000 in
set_option maxHeartbeats 40000000 in
theorem refDiff_any (wd ht : Nat) (wd' ht' : Int) (p p' : Option Addr) (c c' : Nat) (L M : List Int) (w : World) (hL : RowAt encU 1 w p L) (hM : RowAt encU 1 w p' M) (hl1 : wd * ht = L.length) (hl2 : wd * ht = M.length) (hwd : 1 ≤ wd ∧ wd ≤ 256) (hht : 1 ≤ ht ∧ ht ≤ 256) :
    Calls Try.prog 51 #[IV wd ht (.slice p L.length c), IV wd' ht' (.slice p' M.length c')] w fun e w' => ∃ u, e = .returned u ∧ w'.ownsRow w.heap.size 30 4 u (unlL wd ht L M).length (flatR (unlL wd ht L M)) ∧ Below w.heap.size w w' := by
  obtain ⟨A, hA⟩ : ∃ A, diffL wd L M ht = A := ⟨_, rfl⟩
  have hlm : L.length ≤ 65536 := by rw [← hl1]; exact Nat.mul_le_mul hwd.2 hht.2
  have hApix : ∀ X Y : Nat, pix A X Y = true ↔ (Y < ht ∧ X < wd ∧ L[Y * wd + X]? ≠ M[Y * wd + X]?) := fun X Y => by
    rw [← hA, (diffL_ok wd L M hwd.2 ht hht.2).2.2]
    unfold unl
    simp
  have hdoc := doc_unl (L := L) (M := M) hwd.2 hht.2
  rw [hA] at hdoc
  have Hpix := Lib.hid hApix
  have Hdoc0 := Lib.hid hdoc
  clear hdoc hApix hA
  obtain ⟨D, hD⟩ : ∃ D, docR (fun p _ => p) A [] (gN wd) ([], []) ((0 : Nat) : Int) ((gN ht).drop (0 + 1)) = D := ⟨_, rfl⟩
  rw [hD] at Hdoc0
  have HD := Lib.hid hD
  clear hD
  have hgB := heap_pushed [.cells #[.int .i64 (wd : Int), .int .i64 (ht : Int), .slice p L.length c] 39, .cells #[.int .i64 wd', .int .i64 ht', .slice p' M.length c'] 39] w
  simp only [List.foldl_cons, List.foldl_nil] at hgB
  have hal := Below.al2 w (.cells #[.int .i64 (wd : Int), .int .i64 (ht : Int), .slice p L.length c] 39) (.cells #[.int .i64 wd', .int .i64 ht', .slice p' M.length c'] 39)
  have i2 : Im3 ((w.alloc (.cells #[.int .i64 (wd : Int), .int .i64 (ht : Int), .slice p L.length c] 39)).alloc (.cells #[.int .i64 wd', .int .i64 ht', .slice p' M.length c'] 39)) w.heap.size wd ht (.slice p L.length c) := (hgB 0 _).2 rfl
  have i3 : Im3 ((w.alloc (.cells #[.int .i64 (wd : Int), .int .i64 (ht : Int), .slice p L.length c] 39)).alloc (.cells #[.int .i64 wd', .int .i64 ht', .slice p' M.length c'] 39)) (w.heap.size + 1) wd' ht' (.slice p' M.length c') := (hgB 1 _).2 rfl
  clear hgB
  go_enter Try.func51, Try.ntmps51
  go_wp2
  generalize ((w.alloc (.cells #[.int .i64 (wd : Int), .int .i64 (ht : Int), .slice p L.length c] 39)).alloc (.cells #[.int .i64 wd', .int .i64 ht', .slice p' M.length c'] 39)) = w0 at *
  have HL := Lib.hid (hL.below hal)
  have HM := Lib.hid (hM.below hal)
  have Hal := Lib.hid hal
  have Hi2 := Lib.hid i2
  have Hi3 := Lib.hid i3
  have hs0 := hal.size
  clear hL hM hal i2 i3
  go_loopw [5, 6, 7] (fun ov lv jv wr => ∃ (j : Nat) (s : List Rc × List Rc), jv = .int .i64 j ∧ j ≤ ht ∧ wr.ownsRow w.heap.size 30 4 ov s.1.length (flatR s.1) ∧ wr.ownsRow w.heap.size 30 4 lv s.2.length (flatR s.2) ∧
      Hid ((∀ q, ov.ownBlock = some q → w0.heap.size ≤ q) ∧ (∀ q, lv.ownBlock = some q → w0.heap.size ≤ q) ∧ (∀ q, ov.ownBlock = some q → lv.ownBlock ≠ some q)) ∧ Hid (s.1.length + s.2.length ≤ j * 256) ∧
      Hid (docR (fun p _ => p) A [] (gN wd) s (j : Int) ((gN ht).drop (j + 1)) = D) ∧ Hid (Below w0.heap.size w0 wr) ∧ Hid (∀ r ∈ s.2, YB r) ∧ Hid (∃ t h : Int, ∀ r ∈ s.2, r.y = t ∧ r.b = h)) (fun _ _ jv _ => ht - (intOf jv).toNat)
  case atStart =>
    exact ⟨0, ([], []), rfl, Nat.zero_le _, World.ownsRow_nil _ _ _ _, World.ownsRow_nil _ _ _ _, (show Hid _ from ⟨fun q h => (by cases h), fun q h => (by cases h), fun q h => (by cases h)⟩), (show Hid _ from Nat.zero_le _), HD, Lib.hid (Below.refl _ _), (show Hid _ from fun r hr => (by cases hr)), (show Hid _ from ⟨0, 0, fun r hr => (by cases hr)⟩)⟩
  case round =>
    obtain ⟨j, s, rfl, hj, ho, hl, Hbl, Hln, Hdoc, Hb, Hys, Hsm⟩ := hrel
    obtain ⟨m0, m1, m2⟩ := (Hi2.out.later Hb.out).cells
    by_cases hlt : j < ht
    · have hltB : decide (j < ht) = true := by simp; omega
      have Ho := Lib.hid ho
      have Hl := Lib.hid hl
      clear ho hl
      go_wp2
      clear m0 m1 m2
      obtain ⟨wo, rfl⟩ : ∃ wo : World, wo = wr := ⟨_, rfl⟩
      obtain ⟨F, hF⟩ : ∃ F : Int → Bool, (fun u => pix A u (j : Int)) = F := ⟨_, rfl⟩
      have HF := Lib.hid hF
      clear hF
      go_loopw [8, 9] (fun bv iv w5 => ∃ (i : Nat) (band : List Rc), iv = .int .i64 i ∧ i ≤ wd ∧ w5.ownsRow w.heap.size 30 4 bv band.length (flatR band) ∧ Hid (∀ q, bv.ownBlock = some q → wo.heap.size ≤ q) ∧ Hid (Below wo.heap.size wo w5) ∧ Hid (band.length ≤ i) ∧
          Hid (colsO F (j : Int) 1 band (i : Int) ((gN wd).drop (i + 1)) = colsR F (j : Int) 1 (gN wd)) ∧ Hid (∀ r ∈ band, XB r) ∧ Hid (∀ r ∈ band, r.y = (j : Int) ∧ r.b = 1)) (fun _ iv _ => wd - (intOf iv).toNat)
      case atStart =>
        exact ⟨0, [], rfl, Nat.zero_le _, World.ownsRow_nil _ _ _ _, (show Hid _ from fun q h => (by cases h)), Lib.hid (Below.refl _ _), (show Hid _ from Nat.zero_le _), (show Hid _ from colsR_g F _ _ wd), (show Hid _ from fun r hr => (by cases hr)), (show Hid _ from fun r hr => (by cases hr))⟩
      case round =>
        obtain ⟨i, band, rfl, hi, hband, Hbq, Hb5, Hbl5, Hco, Hrb5, Hry5⟩ := hrel
        have Hband := Lib.hid hband
        clear hband
        have Hc5 := Lib.hid (Hb.out.trans (Hb5.out.mono Hb.out.size))
        by_cases hli : i < wd
        · have hliB : decide (i < wd) = true := by simp; omega
          obtain ⟨m0, m1, m2⟩ := (Hi2.out.later Hc5.out).cells
          obtain ⟨n0, n1, n2⟩ := (Hi3.out.later Hc5.out).cells
          have hq : j * wd + i < L.length := by rw [← hl1]; exact place_lt hli hlt
          have hq2 : j * wd + i < M.length := by rw [← hl2]; exact place_lt hli hlt
          obtain ⟨b1, o1, rfl, k1⟩ := HL.out.u32_at hq
          obtain ⟨b2, o2, rfl, k2⟩ := HM.out.u32_at hq2
          have x1 := k1 _ Hc5.out
          have x2 := k2 _ Hc5.out
          clear k1 k2
          obtain ⟨pw1, pw2⟩ := place_in hlt hli hwd.2 hht.2
          have Hcol := Lib.hid (colsO_g F (j : Int) 1 band wd i hli)
          have HFi := Lib.hid (show F (i : Int) = true ↔ L[j * wd + i]'hq ≠ M[j * wd + i]'hq2 from by
            rw [← HF.out, Hpix.out, List.getElem?_eq_getElem hq, List.getElem?_eq_getElem hq2]
            simp [hlt, hli])
          obtain ⟨q, hqq⟩ : ∃ q, j * wd + i = q := ⟨_, rfl⟩
          obtain ⟨qw, hqw⟩ : ∃ qw, j * wd = qw := ⟨_, rfl⟩
          obtain ⟨v1, hv1⟩ : ∃ v, L[j * wd + i]'hq = v := ⟨_, rfl⟩
          obtain ⟨v2, hv2⟩ : ∃ v, M[j * wd + i]'hq2 = v := ⟨_, rfl⟩
          rw [hv1] at x1 HFi
          rw [hv2] at x2 HFi
          rw [hqq] at hq hq2 x1 x2 pw2
          rw [hqw] at pw1 pw2
          clear hv1 hv2 hqq hqw
          have q0 : (0 : Int) ≤ (q : Int) := by omega
          have q1 : (q : Int) < (L.length : Int) := by omega
          have q2 : (q : Int) < (M.length : Int) := by omega
          go_upto_region 9 with (fail)
          have M0 := After.rule m0
          have M2 := After.rule m2
          have N2 := After.rule n2
          have X1 := After.rule x1
          have X2 := After.rule x2
          have hne := After.ne wr
          refine wp_region_in ⟨wr, Below.refl _ _⟩ (by kernel_rfl) (by kernel_rfl) ?_
          repeat (go_big_quiet_step (fail))
          refine wpQuiet_nil ?_
          rintro _ ⟨nn, rfl⟩
          obtain ⟨w6, hw6⟩ : ∃ w6, w6 = nn.world := ⟨_, rfl⟩
          have hb6 : Below wr.heap.size wr w6 := by rw [hw6]; exact nn.below
          rw [← hw6]
          have Hb6 := Lib.hid hb6
          clear hw6 nn M0 M2 N2 X1 X2 hne m0 m1 m2 n0 n1 n2 x1 x2 hb6 pw1 pw2
          have HbT := Lib.hid (Hb5.out.trans (Hb6.out.mono Hb5.out.size))
          have Hband6 := Lib.hid ((Turns.of_below' (T := fun _ => False) Hb6.out).owns Hband.out (fun _ _ h => h))
          by_cases hv : v1 = v2
          · have hvb : (v1 == v2) = true := by simpa using hv
            have HFf : Hid (F (i : Int) = false) := Lib.hid (by
              cases hf : F (i : Int)
              · rfl
              · exact absurd hv (HFi.out.1 hf))
            have Hco2 := Lib.hid (show colsO F (j : Int) 1 band ((i + 1 : Nat) : Int) ((gN wd).drop (i + 1 + 1)) = colsR F (j : Int) 1 (gN wd) from by
              have h1 := Hcol.out
              rw [HFf.out, if_neg (by simp)] at h1
              rw [← h1]
              exact Hco.out)
            clear hv HFi
            go_wp2
            refine ⟨⟨i + 1, band, by go_num, by omega, Hband6.out, Hbq, HbT, Lib.hid (by have := Hbl5.out; omega), Hco2, Hrb5, Hry5⟩, by simp [intOf]; omega⟩
          · have hvb : (v1 == v2) = false := by simpa using hv
            have HFt : Hid (F (i : Int) = true) := Lib.hid (HFi.out.2 hv)
            obtain ⟨nb, hnb⟩ : ∃ nb, colPut (j : Int) 1 (i : Int) ((i + 1 : Nat) : Int) band = nb := ⟨_, rfl⟩
            have Hnb := Lib.hid hnb
            have Hco2 := Lib.hid (show colsO F (j : Int) 1 nb ((i + 1 : Nat) : Int) ((gN wd).drop (i + 1 + 1)) = colsR F (j : Int) 1 (gN wd) from by
              have h1 := Hcol.out
              rw [HFt.out, if_pos rfl, hnb] at h1
              rw [← h1]
              exact Hco.out)
            have Hxb2 : Hid (∀ r ∈ nb, XB r) := Lib.hid (by rw [← hnb]; exact colPut_XB Hrb5.out (by omega) (by omega) (by omega) _ _)
            have Hyb2 : Hid (∀ r ∈ nb, r.y = (j : Int) ∧ r.b = 1) := Lib.hid (by rw [← hnb]; exact colPut_Y Hry5.out)
            have Hln2 : Hid (nb.length ≤ i + 1) := Lib.hid (by rw [← hnb]; have h1 := colPut_len (j : Int) 1 (i : Int) ((i + 1 : Nat) : Int) band; have h2 := Hbl5.out; omega)
            have Hxb := Hrb5
            have hbl5 := Hbl5.out
            clear hnb hv HFi Hcol Hco Hrb5 Hry5 HFt
            obtain ⟨J, hJ⟩ : ∃ J, joinB band (i : Int) = J := ⟨_, rfl⟩
            have HJ := Lib.hid hJ
            clear hJ
            go_upto_region 10 with (fail)
            go_cut [65] (fun sv wx => sv = .bool J ∧ ∃ nq, wx = w6.drewN nq)
            case first =>
              rcases nil_or_snoc band with hbn | ⟨bi, rl, hbn⟩
              · subst hbn
                obtain ⟨pb, cb, hbv⟩ : ∃ pb cb, u8 = .slice pb 0 cb := owns_slice Hband6.out
                subst hbv
                have hJf : J = false := by rw [← HJ.out]; rfl
                subst hJf
                go_quiet (fail)
                go_wp2_with fail
                go_meet
                exact ⟨rfl, _, rfl⟩
              · subst hbn
                obtain ⟨m, hm⟩ : ∃ m, bi.length = m := ⟨_, rfl⟩
                have hown := Hband6.out
                rw [show (bi ++ [rl]).length = m + 1 by simp [hm]] at hown
                have hxl := Hxb.out rl (by simp)
                have hJe : ((rl.x + rl.a : Int) == (i : Int)) = J := by
                  rw [← HJ.out, joinB_snoc, Bool.eq_iff_iff]; simp
                obtain ⟨gb, cap, hbv⟩ : ∃ gb cap, u8 = .slice (some ⟨gb, 0, none⟩) (m + 1) cap := by
                  rcases hown.2 with ⟨-, h0⟩ | ⟨g, cap, cur, hbv, -⟩
                  · omega
                  · exact ⟨g, cap, hbv⟩
                subst hbv
                have c0 := hown.cellAt (m * 4) (by omega)
                have c2 := hown.cellAt (m * 4 + 2) (by omega)
                have h0 := flatR_at_last bi rl 0
                have h2 := flatR_at_last bi rl 2
                rw [hm] at h0 h2
                rw [Nat.add_zero] at h0
                rw [h0] at c0
                rw [h2] at c2
                replace c0 : w6.cell? ⟨gb, m * 4, none⟩ = some (.int .i64 rl.x) := c0
                replace c2 : w6.cell? ⟨gb, m * 4 + 2, none⟩ = some (.int .i64 rl.a) := c2
                unfold XB at hxl
                have hws : IntKind.i64.wrap (rl.x + rl.a) = rl.x + rl.a := IntWalk.i64_in _ (by omega)
                have hmb : m + 1 ≤ 256 := by simp [hm] at hbl5; omega
                have hwm : IntKind.i64.wrap (m : Int) = (m : Int) := IntWalk.i64_in _ (by omega)
                have hm0 : (0 : Int) ≤ (m : Int) := by omega
                have hm1 : (m : Int) < (m : Int) + 1 := by omega
                have hmp : decide ((0 : Int) < (m : Int) + 1) = true := by simp
                clear h0 h2 hown hm hbl5
                generalize rl.x = rx at *
                generalize rl.a = ra at *
                go_quiet (fail)
                go_wp2_with fail
                go_meet
                exact ⟨rfl, _, rfl⟩
            case rest =>
              obtain ⟨rfl, nq, rfl⟩ := hcut
              have hb68 : Below w6.heap.size w6 (w6.drewN nq) := Below.drewN' (Below.refl _ _) nq
              have Hband8 := Lib.hid ((Turns.of_below' (T := fun _ => False) hb68).owns Hband6.out (fun _ _ h => h))
              have HbT8 := Lib.hid (HbT.out.trans (hb68.mono HbT.out.size))
              clear hb68 HbT Hband6
              generalize w6.drewN nq = w8 at *
              have hsb := Hb.out.size
              cases J with
              | false =>
                obtain ⟨pb, cb, hbv⟩ : ∃ pb cb, u8 = .slice pb band.length cb := owns_slice Hband8.out
                subst hbv
                have hs7 := HbT8.out.size
                obtain ⟨i0', hi0, hz0, hz1', hz2⟩ := info_parts rc_info
                go_wp2_with (at_builtin; refine wpList_append_mine _ rfl (.tmp 76) (.tmp 80) 22 rfl w.heap.size 30 i0' _ 4 32 Try.underlying22 hi0 hz0 hz1' hz2 rfl (by decide) (.slice pb band.length cb) band.length (flatR band) rfl (Hband8.out.alloc _) (some ⟨w8.heap.size, 0, none⟩) 1 1 (encR ⟨(i : Int), (j : Int), 1, 1⟩) rfl rfl ?n1 ?n2 ?n3 ?n4 ?n5 ?_)
                case n1 => exact .inr ⟨_, rfl, fun j u hu => cells_new' w8 _ _ j u hu⟩
                case n2 => exact encR_one [(⟨(i : Int), (j : Int), 1, 1⟩ : Rc)]
                case n3 => simp only [maxLen]; omega
                case n4 => omega
                case n5 => simp; omega
                intro v8 w9 r8 gr8 pl8
                have ht8 : Turns (fun q => (Value.slice pb band.length cb).ownBlock = some q) (w8.alloc (.cells #[.int .i64 (i : Int), .int .i64 (j : Int), .int .i64 1, .int .i64 1] 30)) w9 := Turns.of_grown gr8 (fun i h => h)
                have Hb8 := Lib.hid (show Below wo.heap.size wo w9 from (HbT8.out.trans ((Below.al1 w8 _).mono hs7)).trans (ht8.below (by simp; omega) (fun q hq => Hbq.out q hq)))
                have Hq8 := Lib.hid (show ∀ q, v8.ownBlock = some q → wo.heap.size ≤ q from fun q hq => by
                  rcases pl8 q hq with h | h
                  · exact Hbq.out q h
                  · (try simp at h); omega)
                have Hr8 : Hid (w9.ownsRow w.heap.size 30 4 v8 nb.length (flatR nb)) := Lib.hid (by
                  have e := colPut_not HJ.out (j : Int) 1 ((i + 1 : Nat) : Int)
                  rw [Hnb.out, show (((i + 1 : Nat) : Int) - (i : Int)) = 1 by omega] at e
                  rw [e, List.length_append, flatR_snoc]
                  exact r8)
                clear r8 gr8 pl8 ht8
                go_wp2
                refine ⟨?_, by simp [intOf]; omega⟩
                exact ⟨i + 1, nb, by go_num, by omega, Hr8.out, Hq8, Hb8, Hln2, Hco2, Hxb2, Hyb2⟩
              | true =>
                obtain ⟨bi, rl, hbn, her⟩ := joinB_some HJ.out
                subst hbn
                obtain ⟨m, hm⟩ : ∃ m, bi.length = m := ⟨_, rfl⟩
                have hown := Hband8.out
                have hll : (bi ++ [rl]).length = m + 1 := by simp [hm]
                rw [hll] at hown
                have hxl := Hxb.out rl (by simp)
                obtain ⟨gb, cap, hbv⟩ : ∃ gb cap, u8 = .slice (some ⟨gb, 0, none⟩) (m + 1) cap := by
                  rcases hown.2 with ⟨-, h0⟩ | ⟨g, cap, cur, hbv, -⟩
                  · omega
                  · exact ⟨g, cap, hbv⟩
                subst hbv
                have hfl := flatR_last bi rl (rl.a + 1)
                rw [hm] at hfl
                have hnb := colPut_join HJ.out (j : Int) 1 ((i + 1 : Nat) : Int)
                rw [Hnb.out, show (((i + 1 : Nat) : Int) - rl.x) = rl.a + 1 by omega] at hnb
                have Hset := Lib.hid (show (w8.setCell ⟨gb, m * 4 + 2, none⟩ (.int .i64 (rl.a + 1))).ownsRow w.heap.size 30 4 (.slice (some ⟨gb, 0, none⟩) (m + 1) cap) nb.length (flatR nb) from by
                  have h1 := owns_setCell hown (m * 4 + 2) (.int .i64 (rl.a + 1))
                  rw [hfl, ← hnb] at h1
                  have h2 : nb.length = m + 1 := by rw [hnb]; simp [hm]
                  rw [h2]
                  exact h1)
                have c2 := hown.cellAt (m * 4 + 2) (by omega)
                have h2 := flatR_at_last bi rl 2
                rw [hm] at h2
                rw [h2] at c2
                replace c2 : w8.cell? ⟨gb, m * 4 + 2, none⟩ = some (.int .i64 rl.a) := c2
                have f2 : w8.frozen? ⟨gb, m * 4 + 2, none⟩ = false := by
                  rcases hown.2 with ⟨h, _⟩ | ⟨_, _, cur, h, _, hgg, _⟩
                  · cases h
                  · cases h; simp [World.frozen?, hgg]
                have hwr : IntKind.i64.wrap (rl.a + 1) = rl.a + 1 := IntWalk.i64_in _ (by unfold XB at hxl; omega)
                have hgq : wo.heap.size ≤ gb := Hbq.out gb rfl
                have hmb : m + 1 ≤ 256 := by simp [hm] at hbl5; omega
                have hwm : IntKind.i64.wrap (m : Int) = (m : Int) := IntWalk.i64_in _ (by omega)
                have hm0 : (0 : Int) ≤ (m : Int) := by omega
                have hm1 : (m : Int) < (m : Int) + 1 := by omega
                have Hb9 := Lib.hid (show Below wo.heap.size wo (w8.setCell ⟨gb, m * 4 + 2, none⟩ (.int .i64 (rl.a + 1))) from HbT8.out.setCell hgq _)
                have Hq9 := Lib.hid (show ∀ q, (Value.slice (some ⟨gb, 0, none⟩) (m + 1) cap).ownBlock = some q → wo.heap.size ≤ q from fun q hq => by cases hq; exact hgq)
                clear h2 hown hm hll hfl hnb her hxl Hnb HJ Hxb Hband8 Hband hbl5
                generalize rl.a = ra at *
                go_wp2
                refine ⟨?_, by simp [intOf]; omega⟩
                exact ⟨i + 1, nb, by go_num, by omega, Hset.out, Hq9, Hb9, Hln2, Hco2, Hxb2, Hyb2⟩
        · have hliB : decide (i < wd) = false := by simp; omega
          obtain rfl : i = wd := by omega
          obtain ⟨m0, m1, m2⟩ := (Hi2.out.later Hc5.out).cells
          have hcb : colsR F (j : Int) 1 (gN i) = band := by rw [← Hco.out, colsO_end]
          have hbl := Hbl5.out
          have hdr := docR_g A (gN i) s ht j hlt
          rw [HF.out, hcb, Hdoc.out] at hdr
          have Hdoc2 := Lib.hid hdr.symm
          have Hlo := Lib.hid ((Turns.of_below' (T := fun _ => False) Hb5.out).owns Hl.out (fun _ _ h => h))
          have Hoo := Lib.hid ((Turns.of_below' (T := fun _ => False) Hb5.out).owns Ho.out (fun _ _ h => h))
          have Hyb : Hid (∀ r ∈ band, YB r) := Lib.hid (fun r hr => by
            obtain ⟨e1, e2⟩ := Hry5.out r hr
            unfold YB
            omega)
          have Hsb : Hid (∃ t h : Int, ∀ r ∈ band, r.y = t ∧ r.b = h) := Lib.hid ⟨_, _, Hry5.out⟩
          obtain ⟨G, hG⟩ : ∃ G, goesD s.2 band (j : Int) = G := ⟨_, rfl⟩
          have HG := Lib.hid hG
          obtain ⟨last, hlast⟩ : ∃ last, s.2 = last := ⟨_, rfl⟩
          obtain ⟨out, hout⟩ : ∃ out, s.1 = out := ⟨_, rfl⟩
          have hse : s = (out, last) := by rw [← hlast, ← hout]
          subst hse
          have Hoq0 := Lib.hid (show ∀ q, u5.ownBlock = some q → q < wo.heap.size from fun q hq => (Ho.out.lt q hq).2)
          clear hdr hlast hout hG Hco Hdoc hcb Hrb5 Hry5 HF Hl Ho
          try simp only at Hlo
          try simp only at Hoo
          try simp only at HG
          try simp only at Hdoc2
          try simp only at Hbl
          try simp only at Hln
          try simp only at Hys
          try simp only at Hsm
          obtain ⟨pl, cl, hbl2⟩ : ∃ p c, u6 = .slice p last.length c := owns_slice Hlo.out
          obtain ⟨pb, cb, hbb⟩ : ∃ p c, u8 = .slice p band.length c := owns_slice Hband.out
          subst hbl2
          subst hbb
          have hln := Hln.out
          try simp only at hln
          have Hrl := Lib.hid (owns_row' (enc := encR) (k := 4) (fun _ => rfl) Hlo.out)
          have Hrb := Lib.hid (owns_row' (enc := encR) (k := 4) (fun _ => rfl) Hband.out)
          obtain ⟨nl, hnl⟩ : ∃ nl, last.length = nl := ⟨_, rfl⟩
          obtain ⟨nb, hnb⟩ : ∃ nb, band.length = nb := ⟨_, rfl⟩
          have Hnl := Lib.hid hnl
          have Hnb := Lib.hid hnb
          simp only [hnl] at Hlo Hbl Hrl ⊢
          simp only [hnb] at Hband Hbq Hrb ⊢
          rw [hnl] at hln
          rw [hnb] at hbl
          clear hnl hnb
          go_upto_region 13 with (fail)
          clear m0 m1 m2
          go_cut [107] (fun sv wx => sv = .bool G ∧ Below wr.heap.size wr wx)
          case first =>
            have hq := After.ne wr
            cases band with
            | nil =>
              have hn0 : nb = 0 := by rw [← Hnb.out]; rfl
              subst hn0
              have hGf : G = false := by rw [← HG.out]; rfl
              subst hGf
              refine wp_region_in ⟨wr, Below.refl _ _⟩ (by kernel_rfl) (by kernel_rfl) ?_
              repeat (go_big_quiet_step (fail))
              refine wpQuiet_nil ?_
              rintro _ ⟨n1, rfl⟩
              go_wp2_with fail
              go_meet
              exact ⟨rfl, n1.below⟩
            | cons b0 bl =>
              obtain ⟨m, hm⟩ : ∃ m, nb = m + 1 := ⟨bl.length, by rw [← Hnb.out]; rfl⟩
              subst hm
              have hm1 : decide ((0 : Int) < (m : Int) + 1) = true := by simp
              cases last with
              | nil =>
                have hn0 : nl = 0 := by rw [← Hnl.out]; rfl
                subst hn0
                have hGf : G = false := by rw [← HG.out]; rfl
                subst hGf
                refine wp_region_in ⟨wr, Below.refl _ _⟩ (by kernel_rfl) (by kernel_rfl) ?_
                repeat (go_big_quiet_step (fail))
                refine wpQuiet_nil ?_
                rintro _ ⟨n1, rfl⟩
                go_wp2_with fail
                go_meet
                exact ⟨rfl, n1.below⟩
              | cons r0 l0 =>
                obtain ⟨ml, hml⟩ : ∃ m, nl = m + 1 := ⟨l0.length, by rw [← Hnl.out]; rfl⟩
                subst hml
                have hml1 : decide ((0 : Int) < (ml : Int) + 1) = true := by simp
                have hml2 : (0 : Int) < (ml : Int) + 1 := by omega
                have hr0 := Hys.out r0 (by simp)
                obtain ⟨gl, hgl⟩ : ∃ g, pl = some ⟨g, 0, none⟩ := by
                  rcases Hlo.out.2 with ⟨-, h0⟩ | ⟨g, cap, cur, hbv, -⟩
                  · omega
                  · cases hbv; exact ⟨g, rfl⟩
                subst hgl
                have c1 := Hlo.out.cellAt 1 (by omega)
                have c3 := Hlo.out.cellAt 3 (by omega)
                replace c1 : wr.cell? ⟨gl, 1, none⟩ = some (.int .i64 r0.y) := c1
                replace c3 : wr.cell? ⟨gl, 3, none⟩ = some (.int .i64 r0.b) := c3
                have C1 := After.rule c1
                have C3 := After.rule c3
                unfold YB at hr0
                have hwr : IntKind.i64.wrap (r0.y + r0.b) = r0.y + r0.b := IntWalk.i64_in _ (by omega)
                have hGe : G = (touchB (r0 :: l0) (j : Int) && alikeB (r0 :: l0) (b0 :: bl)) := by rw [← HG.out]; rfl
                have hte : ((r0.y + r0.b : Int) == (j : Int)) = touchB (r0 :: l0) (j : Int) := by rw [Bool.eq_iff_iff]; simp [touchB]
                have HGe := Lib.hid hGe
                clear hGe c1 c3
                cases htt : touchB (r0 :: l0) (j : Int)
                · rw [htt] at hte
                  have hGf : G = false := by rw [HGe.out, htt]; rfl
                  subst hGf
                  clear htt HGe
                  generalize r0.y = ry at *
                  generalize r0.b = rb at *
                  refine wp_region_in ⟨wr, Below.refl _ _⟩ (by kernel_rfl) (by kernel_rfl) ?_
                  repeat (go_big_quiet_step (fail))
                  refine wpQuiet_nil ?_
                  rintro _ ⟨n1, rfl⟩
                  go_wp2_with fail
                  go_meet
                  exact ⟨rfl, n1.below⟩
                · rw [htt] at hte
                  have hGf : G = alikeB (r0 :: l0) (b0 :: bl) := by rw [HGe.out, htt]; rfl
                  clear htt HGe
                  have Hal2 := Lib.hid (fun n : After wr => racross_any (.slice (some ⟨gl, 0, none⟩) (ml + 1) cl) (.slice pb (m + 1) cb) (r0 :: l0) (b0 :: bl) n.world (Hrl.out.below (After.below n)) (Hrb.out.below (After.below n)))
                  rw [← hGf] at Hal2
                  clear hGf
                  generalize r0.y = ry at *
                  generalize r0.b = rb at *
                  refine wp_region_in ⟨wr, Below.refl _ _⟩ (by kernel_rfl) (by kernel_rfl) ?_
                  repeat (go_big_quiet_step ((go_at_call 97; exact Makes.after (Hal2.out _))))
                  refine wpQuiet_nil ?_
                  rintro _ ⟨n1, rfl⟩
                  go_wp2_with fail
                  go_meet
                  exact ⟨rfl, n1.below⟩
          case rest =>
            obtain ⟨rfl, hbx⟩ := hcut
            obtain ⟨wx, hwx⟩ : ∃ wx : World, wx = wc := ⟨_, rfl⟩
            subst hwx
            have Hlx := Lib.hid ((Turns.of_below' (T := fun _ => False) hbx).owns Hlo.out (fun _ _ h => h))
            have Hox := Lib.hid ((Turns.of_below' (T := fun _ => False) hbx).owns Hoo.out (fun _ _ h => h))
            have Hbx := Lib.hid ((Turns.of_below' (T := fun _ => False) hbx).owns Hband.out (fun _ _ h => h))
            have Hwx := Lib.hid (Hc5.out.trans (hbx.mono Hc5.out.size))
            have hsx := Hwx.out.size
            have hsb := Hb.out.size
            have hsw : wo.heap.size ≤ wx.heap.size := Nat.le_trans Hb5.out.size hbx.size
            obtain ⟨po, co, hoo⟩ : ∃ p c, u5 = .slice p out.length c := owns_slice Hox.out
            subst hoo
            clear hbx
            cases G with
            | false =>
              have hst := docStep_not (s := (out, last)) HG.out ((j + 1 : Nat) : Int)
              rw [hst] at Hdoc2
              have hlx2 : wx.ownsRow w.heap.size 30 4 (.slice pl last.length cl) last.length (flatR last) := by rw [Hnl.out]; exact Hlx.out
              obtain ⟨p2, c2, he, -, -, hsrc⟩ := RwG.src (enc := encR) (k := 4) (fun _ => rfl) (by decide) (RwG.owned (enc := encR) (k := 4) (fun _ => rfl) hlx2)
              simp only [Value.slice.injEq, true_and] at he
              obtain ⟨rfl, rfl⟩ := he
              rw [Hnl.out] at hsrc
              have Hsrc := Lib.hid hsrc
              have hlen9 : (flatR last).length = nl * 4 := by rw [flatR_len, Hnl.out]
              have Hlen9 := Lib.hid hlen9
              obtain ⟨i0', hi0, hz0, hz1', hz2⟩ := info_parts rc_info
              clear hst hlx2 hsrc hlen9
              go_wp2_with (at_builtin; refine wpList_append_mine _ rfl (.tmp 122) (.tmp 123) 22 rfl w.heap.size 30 i0' _ 4 32 Try.underlying22 hi0 hz0 hz1' hz2 rfl (by decide) (.slice po out.length co) out.length (flatR out) rfl Hox.out pl nl cl (flatR last) rfl Hlen9.out Hsrc.out (encR_one _) ?k3 ?k4 ?k5 ?_)
              case k3 => simp only [maxLen]; omega
              case k4 => omega
              case k5 => omega
              intro v9 w9 r9 gr9 pl9
              have ht9 : Turns (fun q => (Value.slice po out.length co).ownBlock = some q) wx w9 := Turns.of_grown gr9 (fun i h => h)
              have Hb9 := Lib.hid (show Below w0.heap.size w0 w9 from Hwx.out.trans (ht9.below (B := w0.heap.size) hsx (fun q hq => Hbl.out.1 q hq)))
              have Hr9 : Hid (w9.ownsRow w.heap.size 30 4 v9 (out ++ last).length (flatR (out ++ last))) := Lib.hid (by
                have e : flatR (out ++ last) = flatR out ++ flatR last := by simp [flatR]
                rw [List.length_append, e, Hnl.out]
                exact r9)
              have Hband9 : Hid (w9.ownsRow w.heap.size 30 4 (.slice pb nb cb) band.length (flatR band)) := Lib.hid (by
                rw [Hnb.out]
                refine ht9.owns Hbx.out (fun q hq e => ?_)
                have g1 := Hoq0.out q e
                have g2 := Hbq.out q hq
                omega)
              have Htri : Hid ((∀ q, v9.ownBlock = some q → w0.heap.size ≤ q) ∧ (∀ q, (Value.slice pb nb cb).ownBlock = some q → w0.heap.size ≤ q) ∧ (∀ q, v9.ownBlock = some q → (Value.slice pb nb cb).ownBlock ≠ some q)) := Lib.hid ⟨fun q hq => by
                rcases pl9 q hq with h | h
                · exact Hbl.out.1 q h
                · omega, fun q hq => by have := Hbq.out q hq; omega, fun q hq e => by
                rcases pl9 q hq with h | h
                · have g1 := Hoq0.out q h
                  have g2 := Hbq.out q e
                  omega
                · have g2 := (Hbx.out.lt q e).2
                  omega⟩
              have hj9 : (out ++ last).length + band.length ≤ (j + 1) * 256 := by
                rw [List.length_append, Hnl.out, Hnb.out]
                omega
              have Hj9 := Lib.hid hj9
              clear r9 gr9 pl9 ht9 hj9
              go_wp2
              refine ⟨?_, by simp [intOf]; omega⟩
              exact ⟨j + 1, (out ++ last, band), by go_num, by omega, Hr9.out, Hband9.out, Htri, Hj9, Hdoc2, Hb9, Hyb, Hsb⟩
            | true =>
              have hst := docStep_go (s := (out, last)) HG.out ((j + 1 : Nat) : Int)
              rw [hst] at Hdoc2
              have Htall : Hid (∀ r ∈ last, tall ((j + 1 : Nat) : Int) r = ⟨r.x, r.y, r.a, r.b + 1⟩) := Lib.hid (fun r hr => by
                obtain ⟨t, h, hth⟩ := Hsm.out
                have hg := HG.out
                unfold goesD at hg
                simp only [Bool.and_eq_true] at hg
                cases last with
                | nil => cases hr
                | cons r0 l0 =>
                  have h1 : r0.y + r0.b = (j : Int) := by simpa [touchB] using hg.2.2.1
                  have h2 := hth r0 (by simp)
                  have h3 := hth r hr
                  unfold tall
                  rw [Rc.mk.injEq]
                  exact ⟨rfl, rfl, rfl, by omega⟩)
              clear hst
              go_wp2
              go_loopw [10] (fun kv w2 => ∃ k : Nat, k ≤ nl ∧ kv = .int .i64 k ∧ w2.ownsRow w.heap.size 30 4 (.slice pl nl cl) nl (flatR ((last.take k).map (tall ((j + 1 : Nat) : Int)) ++ last.drop k)) ∧ Turns (fun b => (Value.slice pl nl cl).ownBlock = some b) wx w2) (fun kv _ => nl - (intOf kv).toNat)
              case atStart => exact ⟨0, Nat.zero_le _, rfl, by simpa using Hlx.out, Turns.refl _ _⟩
              case round =>
                obtain ⟨k, hk, rfl, hown, htr⟩ := hrel
                have hb2 : Below w0.heap.size w0 wr := Hwx.out.trans (htr.below (B := w0.heap.size) hsx (fun q hq => Hbl.out.2.1 q hq))
                have hll : last.length = nl := Hnl.out
                by_cases hkl : k < nl
                · have dk : decide (k < nl) = true := by simp; omega
                  have hkL : k < last.length := by omega
                  obtain ⟨gl, hgl⟩ : ∃ g, pl = some ⟨g, 0, none⟩ := by
                    rcases hown.2 with ⟨-, h0⟩ | ⟨g, cap, cur, hbv, -⟩
                    · omega
                    · cases hbv; exact ⟨g, rfl⟩
                  subst hgl
                  have hml : ((last.take k).map (tall ((j + 1 : Nat) : Int)) ++ last.drop k).length = last.length := by simp; omega
                  have hget : ((last.take k).map (tall ((j + 1 : Nat) : Int)) ++ last.drop k)[k]'(by omega) = last[k]'hkL := by
                    rw [List.getElem_append_right (by simp; omega)]
                    simp [List.length_take, Nat.min_eq_left (show k ≤ last.length by omega)]
                  have htk := Htall.out (last[k]'hkL) (List.getElem_mem _)
                  have hSt : (flatR ((last.take k).map (tall ((j + 1 : Nat) : Int)) ++ last.drop k)).set (k * 4 + 3) (.int .i64 ((last[k]'hkL).b + 1)) = flatR ((last.take (k + 1)).map (tall ((j + 1 : Nat) : Int)) ++ last.drop (k + 1)) := by
                    rw [flatR_set _ k _ (by omega), hget]
                    congr 1
                    rw [List.take_succ_eq_append_getElem (by omega), List.map_append, List.append_assoc, List.set_append_right _ _ (by simp; omega)]
                    congr 1
                    have h9 : k - (List.map (tall ((j + 1 : Nat) : Int)) (List.take k last)).length = 0 := by simp; omega
                    rw [h9, List.drop_eq_getElem_cons (by omega), List.map_cons, List.map_nil, htk]
                    rfl
                  have HSt := Lib.hid hSt
                  have hrl := Hys.out (last[k]'hkL) (List.getElem_mem _)
                  have c3 := hown.cellAt (k * 4 + 3) (by omega)
                  have e3 : (flatR ((last.take k).map (tall ((j + 1 : Nat) : Int)) ++ last.drop k))[k * 4 + 3]? = some (.int .i64 (last[k]'hkL).b) := by
                    rw [flatR, flat_at' (enc := encR) (k := 4) (fun _ => rfl) _ k 3 (by decide), List.getElem?_eq_getElem (by omega), hget]
                    rfl
                  rw [e3] at c3
                  have f3 : wr.frozen? ⟨gl, k * 4 + 3, none⟩ = false := by
                    rcases hown.2 with ⟨h, _⟩ | ⟨_, _, cur, h, _, hgg, _⟩
                    · cases h
                    · cases h; simp [World.frozen?, hgg]
                  have Hset9 := Lib.hid (owns_setCell hown (k * 4 + 3) (.int .i64 ((last[k]'hkL).b + 1)))
                  have Htr9 := Lib.hid (show Turns (fun b => (Value.slice (some ⟨gl, 0, none⟩) nl cl).ownBlock = some b) wx (wr.setCell ⟨gl, k * 4 + 3, none⟩ (.int .i64 ((last[k]'hkL).b + 1))) from htr.set (p := ⟨gl, k * 4 + 3, none⟩) rfl _)
                  clear hml hget hSt e3 hb2 htr hown htk
                  generalize last[k]'hkL = r at *
                  unfold YB at hrl
                  have hwr : IntKind.i64.wrap (r.b + 1) = r.b + 1 := IntWalk.i64_in _ (by omega)
                  have k0 : (0 : Int) ≤ (k : Int) := by omega
                  have k1 : (k : Int) < (nl : Int) := by omega
                  generalize r.b = rb at *
                  go_wp2
                  go_roundw
                  case rel => exact ⟨k + 1, by omega, by go_num, by rw [← HSt.out]; exact Hset9.out, Htr9.out⟩
                  case measure => simp [intOf]; omega
                · obtain rfl : k = nl := by omega
                  have dk : decide (k < k) = false := by simp
                  rw [List.take_of_length_le (by omega), List.drop_eq_nil_of_le (by omega), List.append_nil] at hown
                  have Hown9 : Hid (wr.ownsRow w.heap.size 30 4 (.slice pl k cl) (last.map (tall ((j + 1 : Nat) : Int))).length (flatR (last.map (tall ((j + 1 : Nat) : Int))))) := Lib.hid (by rw [List.length_map, Hnl.out]; exact hown)
                  have Hout9 := Lib.hid (htr.owns Hox.out (fun q hq e => Hbl.out.2.2 q hq e))
                  have Hb9 := Lib.hid hb2
                  have hj9 : out.length + (last.map (tall ((j + 1 : Nat) : Int))).length ≤ (j + 1) * 256 := by
                    rw [List.length_map, Hnl.out]
                    omega
                  have Hj9 := Lib.hid hj9
                  have Hys9 : Hid (∀ r ∈ last.map (tall ((j + 1 : Nat) : Int)), YB r) := Lib.hid (fun r hr => by
                    obtain ⟨r0, h0, rfl⟩ := List.mem_map.1 hr
                    exact tall_YB (Hys.out r0 h0) (by omega))
                  have Hsm9 : Hid (∃ t h : Int, ∀ r ∈ last.map (tall ((j + 1 : Nat) : Int)), r.y = t ∧ r.b = h) := Lib.hid (by
                    obtain ⟨t, h, hth⟩ := Hsm.out
                    refine ⟨t, h + 1, fun r hr => ?_⟩
                    obtain ⟨r0, h0, rfl⟩ := List.mem_map.1 hr
                    have := hth r0 h0
                    rw [Htall.out r0 h0]
                    simp only
                    omega)
                  clear hown htr hb2 hj9
                  go_wp2
                  refine ⟨?_, by simp [intOf]; omega⟩
                  exact ⟨j + 1, (out, last.map (tall ((j + 1 : Nat) : Int))), by go_num, by omega, Hout9.out, Hown9.out, Hbl, Hj9, Hdoc2, Hb9, Hys9, Hsm9⟩
    · have hltB : decide (j < ht) = false := by simp; omega
      obtain rfl : j = ht := by omega
      have hfin : unlL wd j L M = s.1 ++ s.2 := by
        have h1 := Hdoc.out
        rw [docR_end] at h1
        rw [← Hdoc0.out, ← h1]
      have Hfin := Lib.hid hfin
      have hl2 := Hln.out
      obtain ⟨pl, cl, hbl2⟩ : ∃ p c, u6 = .slice p s.2.length c := owns_slice hl
      obtain ⟨po, co, hoo⟩ : ∃ p c, u5 = .slice p s.1.length c := owns_slice ho
      subst hbl2
      subst hoo
      obtain ⟨p2, c2, he, -, -, hsrc⟩ := RwG.src (enc := encR) (k := 4) (fun _ => rfl) (by decide) (RwG.owned (enc := encR) (k := 4) (fun _ => rfl) hl)
      simp only [Value.slice.injEq, true_and] at he
      obtain ⟨rfl, rfl⟩ := he
      have Hsrc := Lib.hid hsrc
      have Ho := Lib.hid ho
      have hsb := Hb.out.size
      obtain ⟨i0', hi0, hz0, hz1', hz2⟩ := info_parts rc_info
      clear ho hl hsrc hfin
      generalize s.1 = out at *
      generalize s.2 = last at *
      go_wp2_with (at_builtin; refine wpList_append_mine _ rfl (.tmp 126) (.tmp 127) 22 rfl w.heap.size 30 i0' _ 4 32 Try.underlying22 hi0 hz0 hz1' hz2 rfl (by decide) (.slice po out.length co) out.length (flatR out) rfl Ho.out pl last.length cl (flatR last) rfl (flatR_len _) Hsrc.out (encR_one _) ?q3 ?q4 ?q5 ?_)
      case q3 => simp only [maxLen]; omega
      case q4 => omega
      case q5 => omega
      intro v9 w9 r9 gr9 pl9
      have ht9 : Turns (fun q => (Value.slice po out.length co).ownBlock = some q) wr w9 := Turns.of_grown gr9 (fun i h => h)
      have Hb9 := Lib.hid (show Below w.heap.size w w9 from Hal.out.trans ((Hb.out.trans (ht9.below (B := w0.heap.size) hsb (fun q hq => Hbl.out.1 q hq))).mono hs0))
      have Hr9 : Hid (w9.ownsRow w.heap.size 30 4 v9 (out ++ last).length (flatR (out ++ last))) := Lib.hid (by
        have e : flatR (out ++ last) = flatR out ++ flatR last := by simp [flatR]
        rw [List.length_append, e]
        exact r9)
      clear r9 gr9 pl9 ht9
      go_wp2
      go_ret
      exact ⟨_, rfl, by rw [Hfin.out]; exact Hr9.out, Hb9.out⟩

end Go.Proofs.Ytpddkhhdleknnaa
