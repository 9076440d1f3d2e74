/- tiles: the document's Sums. -/
import Derived.Test.YtajoipmchgabfaaGreatT45
namespace Go.Proofs.YtajoipmchgabfaaGreat
open Go.RowKit

/-- The sums of the first tiles. -/
def smT (pw ph : Nat) (L : List Int) (i : Nat) : List Int := (List.range i).map (tlS pw ph L)
theorem smT_succ (pw ph : Nat) (L : List Int) (i : Nat) : smT pw ph L (i + 1) = smT pw ph L i ++ [tlS pw ph L i] := by
  unfold smT
  rw [List.range_succ, List.map_append]
  rfl
theorem px3_nat (s : Int) (c : Nat) : bits .xor .u32 (bits .xor .u32 (bits .xor .u32 s ((c : Int) / 65536 % 256) * 16777619 % 4294967296) ((c : Int) / 256 % 256) * 16777619 % 4294967296) ((c : Int) % 256) * 16777619 % 4294967296 = px3 s (c : Int) := rfl

theorem u32V_one (z : Int) : ∀ u ∈ [u32V z], u.oneCell' = true := fun u h => by
  rcases List.mem_cons.1 h with rfl | h
  · rfl
  · cases h

set_option maxRecDepth 20000 in
set_option maxHeartbeats 4000000 in
theorem refSums_any (wd ht : Int) (p : Option Addr) (c n : Nat) (L : List Int) (W : World) (hL : RowAt encW 1 W p L) (hn : L.length = n) (hu : ∀ v ∈ L, 0 ≤ v ∧ v < 4294967296) :
    Calls Tryz.prog 15 #[.agg #[.int .i64 wd, .int .i64 ht, .slice p n c]] W fun e w' => ∃ v', e = .returned v' ∧ w'.ownsRow W.heap.size 38 1 v' (smL wd ht L).length ((smL wd ht L).map u32V) ∧ Below W.heap.size W w' := by
  obtain ⟨i0, hi0, hz0, hz1, hz2⟩ := info_parts w32_info
  have HL := Lib.hid hL
  have Hn := Lib.hid hn
  have Hu := Lib.hid hu
  clear hL hn hu
  have HIs := Lib.hid (fun w => tlIs_any wd ht p n c w)
  obtain ⟨yes, hyes⟩ : ∃ b, decide (okS wd ht ∧ (n : Int) = wd * ht) = b := ⟨_, rfl⟩
  rw [hyes] at HIs
  cases yes with
  | false =>
    have hno := of_decide_eq_false hyes
    have hsm : smL wd ht L = [] := by unfold smL; rw [Hn.out, if_neg hno]
    rw [hsm]
    clear hno hsm hyes
    go_enter Tryz.func15, Tryz.ntmps15
    go_upto_region 1 with (fail)
    have hb0 := Below.al1 W (.cells #[.int .i64 wd, .int .i64 ht, .slice p n c] 25)
    have hi1 := World.alloc_heap_new W (.cells #[.int .i64 wd, .int .i64 ht, .slice p n c] 25)
    generalize W.alloc (.cells #[.int .i64 wd, .int .i64 ht, .slice p n c] 25) = w0 at *
    have m0 : w0.cell? ⟨W.heap.size, 0, none⟩ = some (.int .i64 wd) := cell_heapT hi1 rfl
    have m1 : w0.cell? ⟨W.heap.size, 1, none⟩ = some (.int .i64 ht) := cell_heapT hi1 rfl
    have m2 : w0.cell? ⟨W.heap.size, 2, none⟩ = some (.slice p n c) := cell_heapT hi1 rfl
    clear hi1
    go_wp2_with fail
    refine Calls.mono (HIs.out w0) ?_
    rintro _ w1 ⟨rfl, hb1⟩
    have Hb1 := Lib.hid (Below.thn hb0 hb1)
    clear hb0 hb1 m0 m1 m2
    go_wp2
    go_ret
    exact ⟨_, rfl, World.ownsRow_nil _ _ _ _, Hb1.out⟩
  | true =>
    have hok := of_decide_eq_true hyes
    have hne : (smL wd ht L).length ≠ 0 := fun h => smL_none h (by rw [Hn.out]; exact hok)
    obtain ⟨pw, ph, rfl, rfl, hp1, hp2, hp3, hp4, hp5, hp6, hp7, hp8⟩ := smL_some hne
    rw [hp8 L rfl]
    rw [Hn.out] at hp5
    have hgr := fun w => refGrid_any (pw : Int) (ph : Int) w
    rw [hp6, hp7] at hgr
    have hgl : (grL pw ph).length = tlN pw ph := by unfold grL; simp
    have hgf : ∀ i (hi : i < (grL pw ph).length), (grL pw ph)[i] = tlR pw ph i := fun i hi => by simp [grL]
    have hN256 := tlN_le hp2 hp4
    have htl := fun i hi => @tl_in pw ph i hp2 hp4 hi
    rw [hgl] at hgr
    rw [List.length_map, List.length_range]
    have hn5 : n ≤ 65536 := by rw [hp5]; exact Nat.mul_le_mul hp2 hp4
    have Hin : Hid (∀ Y X, Y < ph → X < pw → Y * pw + X < n) := Lib.hid (fun Y X h1 h2 => by
      have h3 : (Y + 1) * pw ≤ ph * pw := Nat.mul_le_mul_right _ h1
      rw [Nat.succ_mul] at h3
      rw [hp5, Nat.mul_comm pw ph]
      omega)
    change Calls _ _ _ _ fun e w' => ∃ v', e = .returned v' ∧ w'.ownsRow W.heap.size 38 1 v' (tlN pw ph) ((smT pw ph L (tlN pw ph)).map u32V) ∧ Below W.heap.size W w'
    obtain ⟨N, hN⟩ : ∃ N, tlN pw ph = N := ⟨_, rfl⟩
    rw [hN] at hgl hN256 hgr htl ⊢
    have Hgf : Hid ((grL pw ph).length = N ∧ ∀ i (hi : i < (grL pw ph).length), (grL pw ph)[i] = tlR pw ph i) := Lib.hid ⟨hgl, hgf⟩
    have Hgr := Lib.hid hgr
    have Htl := Lib.hid htl
    clear hyes hok hne hp8 hp7 hp6 hp5 hgr hgl hgf htl hN
    go_enter Tryz.func15, Tryz.ntmps15
    go_upto_region 1 with (fail)
    have hb0 := Below.al1 W (.cells #[.int .i64 (pw : Int), .int .i64 (ph : Int), .slice p n c] 25)
    have hi1 := World.alloc_heap_new W (.cells #[.int .i64 (pw : Int), .int .i64 (ph : Int), .slice p n c] 25)
    generalize W.alloc (.cells #[.int .i64 (pw : Int), .int .i64 (ph : Int), .slice p n c] 25) = w0 at *
    have m0 : w0.cell? ⟨W.heap.size, 0, none⟩ = some (.int .i64 (pw : Int)) := cell_heapT hi1 rfl
    have m1 : w0.cell? ⟨W.heap.size, 1, none⟩ = some (.int .i64 (ph : Int)) := cell_heapT hi1 rfl
    have m2 : w0.cell? ⟨W.heap.size, 2, none⟩ = some (.slice p n c) := cell_heapT hi1 rfl
    go_wp2_with fail
    refine Calls.mono (HIs.out w0) ?_
    rintro _ w1 ⟨rfl, hb1⟩
    have hi2 := (hb1.block _ (lt_heapT hi1)).trans hi1
    have Hb1 := Lib.hid (Below.thn hb0 hb1)
    clear m0 m1 m2 hb0 hb1 hi1
    have m0 : w1.cell? ⟨W.heap.size, 0, none⟩ = some (.int .i64 (pw : Int)) := cell_heapT hi2 rfl
    have m1 : w1.cell? ⟨W.heap.size, 1, none⟩ = some (.int .i64 (ph : Int)) := cell_heapT hi2 rfl
    have m2 : w1.cell? ⟨W.heap.size, 2, none⟩ = some (.slice p n c) := cell_heapT hi2 rfl
    go_wp2_with fail
    refine Calls.mono (Hgr.out w1) ?_
    rintro _ w2 ⟨v2, rfl, ho2, hb2⟩
    obtain ⟨p2, c2, rfl, hg2, hg2', hp2'⟩ := owns_row' (enc := encR) (k := 4) (fun _ => rfl) (by rw [Hgf.out.1]; exact ho2)
    rw [Hgf.out.1] at hg2 ⊢
    have Hg2 := Lib.hid hp2'
    have Hl2 := Lib.hid (HL.out.below (Below.thn Hb1.out hb2))
    have M0 := Lib.hid (cell_later hb2 m0)
    have M2 := Lib.hid (cell_later hb2 m2)
    have Hb2 := Lib.hid (Below.thn Hb1.out hb2)
    clear ho2 hb2 hp2' m0 m1 m2 hi2
    go_wp2_with fail
    go_loopw [3, 5, 6, 7, 8, 9] (fun ov iv _ _ _ _ wr => ∃ (i : Nat) (pv : Option Addr) (cv : Nat), i ≤ N ∧ iv = .int .i64 (i : Int) ∧ ov = .slice pv i cv ∧ Hid (wr.ownsRow w2.heap.size 38 1 (.slice pv i cv) i ((smT pw ph L i).map u32V)) ∧ Hid (Below w2.heap.size w2 wr)) (fun _ iv _ _ _ _ _ => N - (intOf iv).toNat)
    case atStart => exact ⟨0, none, 0, Nat.zero_le _, rfl, rfl, Lib.hid (World.ownsRow_nil _ _ _ _), Lib.hid (Below.refl _ _)⟩
    case round =>
      obtain ⟨i, pv, cv, hi, rfl, rfl, Ho, Hb⟩ := hrel
      by_cases hin : i < N
      · have di : decide ((i : Int) < (N : Int)) = true := by simp; omega
        have hil : i < (grL pw ph).length := by rw [Hgf.out.1]; exact hin
        obtain ⟨bg, og, rfl, -, hat⟩ := Hg2.out.rc hil
        have hg := (hat i hil).later Hb.out
        rw [Hgf.out.2 i hil] at hg
        obtain ⟨⟨t1, t2, t3, t4, t5, t6⟩, he⟩ := Htl.out i hin
        have hs := smT_succ pw ph L i
        unfold tlS at hs
        obtain ⟨T, hT⟩ : ∃ T, tlR pw ph i = T := ⟨_, rfl⟩
        rw [hT] at hg t1 t2 t3 t4 t5 t6 hs
        obtain ⟨X, hX⟩ := Int.eq_ofNat_of_zero_le t1
        obtain ⟨Y, hY⟩ := Int.eq_ofNat_of_zero_le t2
        obtain ⟨A, hA⟩ := Int.eq_ofNat_of_zero_le (show 0 ≤ T.a by omega)
        obtain ⟨B, hB⟩ := Int.eq_ofNat_of_zero_le (show 0 ≤ T.b by omega)
        rw [hX, hY, hA, hB, Int.toNat_natCast, Int.toNat_natCast, Int.toNat_natCast, Int.toNat_natCast] at hs
        have Hs := Lib.hid hs
        have Hg : Hid (∀ w', Below w2.heap.size w2 w' → w'.cell? ⟨bg, og + i * 4, none⟩ = some (.int .i64 (X : Int)) ∧ w'.cell? ⟨bg, og + i * 4 + 1, none⟩ = some (.int .i64 (Y : Int)) ∧ w'.cell? ⟨bg, og + i * 4 + 2, none⟩ = some (.int .i64 (A : Int)) ∧ w'.cell? ⟨bg, og + i * 4 + 3, none⟩ = some (.int .i64 (B : Int))) := Lib.hid (fun w' hb => by
          have h1 := (hat i hil).later hb
          rw [Hgf.out.2 i hil, hT] at h1
          rw [← hX, ← hY, ← hA, ← hB]
          exact ⟨h1.c0, h1.c1, h1.c2, h1.c3⟩)
        have hXA : X + A ≤ pw := by omega
        have hYB : Y + B ≤ ph := by omega
        obtain ⟨XA, hxa⟩ : ∃ z, X + A = z := ⟨_, rfl⟩
        obtain ⟨YB, hyb⟩ : ∃ z, Y + B = z := ⟨_, rfl⟩
        have hw1 : IntKind.i64.wrap ((Y : Int) + (B : Int)) = (YB : Int) := by rw [← hyb, Int.natCast_add]; exact IntWalk.i64_in _ (by omega)
        have hw2 : IntKind.i64.wrap ((X : Int) + (A : Int)) = (XA : Int) := by rw [← hxa, Int.natCast_add]; exact IntWalk.i64_in _ (by omega)
        have Hxa := Lib.hid (And.intro hxa hyb)
        have j0 : (0 : Int) ≤ (i : Int) := by omega
        have j1 : (i : Int) < (N : Int) := by omega
        obtain ⟨g0, g1, g2, g3⟩ := Hg.out _ Hb.out
        clear hg hat hil t1 t2 t3 t4 t5 t6 he hs hT hX hY hA hB hxa hyb
        go_wp2_with fail
        go_loopw [6, 7, 8, 9] (fun sv yv _ _ wr2 => ∃ (j s : Nat) (z : Int), j ≤ B ∧ yv = .int .i64 (s : Int) ∧ sv = .int .u32 z ∧ Hid (s = Y + j ∧ z = smF pw X Y A L j) ∧ Hid (Below wr.heap.size wr wr2)) (fun _ yv _ _ _ => YB - (intOf yv).toNat)
        case atStart => exact ⟨0, Y, _, Nat.zero_le _, rfl, rfl, Lib.hid ⟨rfl, rfl⟩, Lib.hid (Below.refl _ _)⟩
        case round =>
          obtain ⟨j, s, z, hj, rfl, rfl, Hz, Hb2⟩ := hrel
          have hsz := Hz.out.1
          have hxy := Hxa.out
          clear g0 g1 g2 g3
          obtain ⟨g0, g1, g2, g3⟩ := Hg.out _ (Below.thn Hb.out Hb2.out)
          by_cases hjB : j < B
          · have ds : decide ((s : Int) < (YB : Int)) = true := by simp; omega
            have hsph : s < ph := by omega
            have hYB2 : s < YB := by omega
            clear hsz hxy
            go_wp2_with fail
            go_quiet (fail)
            go_wp2_with fail
            go_loopw [6, 8, 9] (fun sv xv _ wr3 => ∃ (k u : Nat) (z : Int), k ≤ A ∧ xv = .int .i64 (u : Int) ∧ sv = .int .u32 z ∧ Hid (u = X + k ∧ z = smP pw X Y A L j k) ∧ Hid (Below wr.heap.size wr wr3)) (fun _ xv _ _ => XA - (intOf xv).toNat)
            case atStart => exact ⟨0, X, z, Nat.zero_le _, rfl, rfl, Lib.hid ⟨rfl, by rw [smP_zero]; exact Hz.out.2⟩, Lib.hid (Below.drewN' (Below.refl _ _) _)⟩
            case round =>
              obtain ⟨k, u, z', hk, rfl, rfl, Hz', Hb3⟩ := hrel
              have huz := Hz'.out.1
              have hxy := Hxa.out
              have hsz := Hz.out.1
              have hbl := Below.thn (Below.thn Hb.out Hb2.out) Hb3.out
              clear g0 g1 g2 g3
              obtain ⟨g0, g1, g2, g3⟩ := Hg.out _ hbl
              have m0 := cell_later hbl M0.out
              have m2 := cell_later hbl M2.out
              by_cases hkA : k < A
              · have du : decide ((u : Int) < (XA : Int)) = true := by simp; omega
                have hF := Hin.out s u hsph (by omega)
                obtain ⟨q, hq⟩ : ∃ q, s * pw = q := ⟨_, rfl⟩
                obtain ⟨F, hFe⟩ : ∃ F, q + u = F := ⟨_, rfl⟩
                rw [hq, hFe] at hF
                have hFL : F < L.length := by rw [Hn.out]; exact hF
                obtain ⟨bl, ol, rfl, cl⟩ := (Hl2.out.below hbl).sumZ hFL
                have hv := Hu.out _ (List.getElem_mem hFL)
                have hLF : L[F]? = some L[F] := List.getElem?_eq_getElem hFL
                obtain ⟨v, hve⟩ := Int.eq_ofNat_of_zero_le hv.1
                rw [hve] at cl hLF
                have hstep := smP_step (wd := pw) (x := X) (y := Y) (L := L) (j := j) hkA (by rw [← hsz, hq, Nat.add_assoc, ← huz, hFe]; exact hLF)
                rw [← Hz'.out.2] at hstep
                have h3 := px3_nat z' v
                rw [← hstep] at h3
                have Hst : Hid (u + 1 = X + (k + 1) ∧ smP pw X Y A L j (k + 1) = smP pw X Y A L j (k + 1)) := Lib.hid ⟨by omega, rfl⟩
                obtain ⟨z2, hz2e⟩ : ∃ z, smP pw X Y A L j (k + 1) = z := ⟨_, rfl⟩
                rw [hz2e] at h3
                have Hz2 : Hid (u + 1 = X + (k + 1) ∧ z2 = smP pw X Y A L j (k + 1)) := Lib.hid ⟨by omega, hz2e.symm⟩
                have hqb : q ≤ 65536 := by omega
                have hub : u ≤ 256 := by omega
                have hw3 : IntKind.i64.wrap ((s : Int) * (pw : Int)) = (q : Int) := by rw [← Int.natCast_mul, hq]; exact IntWalk.i64_in _ (by omega)
                have hw4 : IntKind.i64.wrap ((q : Int) + (u : Int)) = (F : Int) := by rw [← Int.natCast_add, hFe]; exact IntWalk.i64_in _ (by omega)
                have f0 : (0 : Int) ≤ (F : Int) := by omega
                have f1 : (F : Int) < (n : Int) := by omega
                have huX : u < XA := by omega
                clear hq hFe hF hFL hv hLF hve hstep Hst hz2e hsz hxy huz hbl hqb
                go_wp2_with fail
                go_quiet (fail)
                go_wp2_with fail
                go_roundw
                case rel => exact ⟨k + 1, u + 1, z2, by omega, by go_num, (by first | rfl | rw [h3]), Hz2, Lib.hid (Below.drewN' Hb3.out _)⟩
                case measure => simp [intOf]; omega
              · obtain rfl : A = k := by omega
                obtain rfl : u = XA := by omega
                have du : decide ((u : Int) < (u : Int)) = false := by simp
                have hz3 := Hz'.out.2
                rw [smP_all] at hz3
                have Hz3 : Hid (s + 1 = Y + (j + 1) ∧ z' = smF pw X Y A L (j + 1)) := Lib.hid ⟨by omega, hz3⟩
                have Hb4 := Lib.hid (Below.thn Hb2.out Hb3.out)
                clear hz3 hsz hxy huz hbl m0 m2
                go_wp2_with fail
                go_quiet (fail)
                go_wp2_with fail
                go_roundw
                case rel => exact ⟨j + 1, s + 1, z', by omega, by go_num, rfl, Hz3, Lib.hid (Below.drewN' Hb4.out _)⟩
                case measure => simp [intOf]; omega
          · obtain rfl : B = j := by omega
            obtain rfl : s = YB := by omega
            have ds : decide ((s : Int) < (s : Int)) = false := by simp
            have Ho2 := Lib.hid ((Turns.of_below' (T := fun _ => False) Hb2.out).owns Ho.out (fun _ _ h => h))
            have Hb3 := Lib.hid (Below.thn Hb.out Hb2.out)
            have hs3 := Hb3.out.size
            have hzz := Hz.out.2
            rw [← hzz] at Hs
            clear hsz hxy hzz
            go_wp2_with fail
            go_quiet (fail)
            have Ho3 : Hid (∀ m, (wr.drewN m).ownsRow w2.heap.size 38 1 (.slice pv i cv) i ((smT pw ph L i).map u32V)) := Lib.hid (fun m => (Turns.of_below' (T := fun _ => False) (Below.drewN' (Below.refl wr.heap.size wr) m)).owns Ho2.out (fun _ _ h => h))
            go_wp2_with (at_builtin; refine wpList_append_mine _ rfl (.tmp 91) (.tmp 93) 23 rfl w2.heap.size 38 i0 _ 1 4 Tryz.underlying23 hi0 hz0 hz1 hz2 rfl (by decide) (.slice pv i cv) i ((smT pw ph L i).map u32V) rfl ((Ho3.out _).alloc _) (some ⟨wr.heap.size, 0, none⟩) 1 1 [u32V z] rfl rfl ?n1 ?n2 ?n3 ?n4 ?n5 ?_)
            case n1 => exact .inr (src_new rfl)
            case n2 => exact u32V_one z
            case n3 => simp only [maxLen]; omega
            case n4 => omega
            case n5 => simp; omega
            intro v8 w9 r8 gr8 pl8
            have ht8 := Turns.of_grown (T := fun q => (Value.slice pv i cv).ownBlock = some q) gr8 (fun i h => h)
            have Hb8 := Lib.hid (show Below w2.heap.size w2 w9 from (Below.thn (Below.drewN' Hb3.out _) (Below.al1 _ _)).trans (ht8.below (by simp; omega) (fun q hq => (Ho2.out.lt q hq).1)))
            obtain ⟨p9, c9, rfl⟩ := owns_slice r8
            have Hr8 : Hid (w9.ownsRow w2.heap.size 38 1 (.slice p9 (i + 1) c9) (i + 1) ((smT pw ph L (i + 1)).map u32V)) := Lib.hid (by
              rw [Hs.out, List.map_append]
              exact r8)
            clear r8 gr8 pl8 ht8
            go_wp2
            go_roundw
            case rel => exact ⟨i + 1, _, _, by omega, by go_num, rfl, Hr8, Hb8⟩
            case measure => simp [intOf]; omega
      · obtain rfl : N = i := by omega
        have di : decide ((N : Int) < (N : Int)) = false := by simp
        have hfin := own_less Ho.out Hb2.out.size
        have hbf := Below.thn Hb2.out Hb.out
        have Hfin := Lib.hid hfin
        have Hbf := Lib.hid hbf
        clear hfin hbf
        go_wp2
        go_ret
        exact ⟨_, rfl, Hfin.out, Hbf.out⟩

end Go.Proofs.YtajoipmchgabfaaGreat
