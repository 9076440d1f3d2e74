/- RegionShifts answers true: a list that is shifted has as many pixels, each where it must be. -/
import Derived.Test.YtjgbelljijhfcaaWakes3
namespace Go.Proofs.Ytjgbelljijhfcaa
open Go.RowKit

/-- Of a list with a pixel each of whose rectangles can be shifted: the way is short. -/
theorem shift_short {l : List Rc} {dx dy : Int} (h : ∀ r ∈ l, emptyR r = false → shiftR r dx dy ≠ zeroRc) (hA : areaS (formL (fun p _ => p) l []) ≠ 0) : (-4194304 ≤ dx ∧ dx ≤ 4194304) ∧ (-4194304 ≤ dy ∧ dy ≤ 4194304) := by
  have hex : ∃ r ∈ l, emptyR r = false := by
    by_cases hall : ∀ r ∈ l, emptyR r = true
    · exfalso
      apply hA
      have : formL (fun p _ => p) l [] = [] := form_none rfl (fun x y => by
        cases hp : pix l x y
        · rfl
        · obtain ⟨r, hr, hh⟩ := pix_iff.1 hp
          have h1 := hall r hr
          rw [(has_iff.1 hh).1] at h1
          cases h1)
      rw [this]; rfl
    · simp only [Classical.not_forall] at hall
      obtain ⟨r, hr, hn⟩ := hall
      exact ⟨r, hr, by simpa using hn⟩
  obtain ⟨r, hr, he⟩ := hex
  have hb := emptyR_false.1 he
  rcases shift_cases r dx dy with e | ⟨-, -, h1, h2, h3, h4⟩
  · exact absurd e (h r hr he)
  · omega

theorem eqRs_one (r s : Rc) : eqRs [r] [s] = eqR r s := by simp [eqRs]
theorem eqR_zero {r : Rc} : eqR r zeroRc = false ↔ r ≠ zeroRc := by
  rw [← eqRs_one]
  constructor
  · rintro h rfl
    rw [eqRs_iff.2 rfl] at h; cases h
  · intro h
    cases hq : eqRs [r] [zeroRc]
    · rfl
    · exact absurd (by simpa using eqRs_iff.1 hq) h

set_option maxRecDepth 100000 in
set_option maxHeartbeats 8000000 in
theorem rshifts_any (va : Value) (l : List Rc) (dx dy x y : Int) (w : World) (ha : Rw w va l) (hfa : ∀ r ∈ l, Fit r) :
    Makes Try.prog 7 #[va, .int .i64 dx, .int .i64 dy, .int .i64 x, .int .i64 y] w (.bool true) := by
  unfold Makes
  have S0 : St w w [(va, l)] := ⟨Below.refl _ _, fun v xs h => by
    simp only [List.mem_cons, Prod.mk.injEq, List.not_mem_nil, or_false] at h
    obtain ⟨rfl, rfl⟩ := h
    exact ⟨ha, hfa⟩⟩
  have hln := ha.row.len
  obtain ⟨⟨pa, ca, rfl, -, -, hp0⟩, -⟩ := ha
  have Hf := Lib.hid hfa
  clear hfa
  have heq := eql_rc
  go_enter Try.func7, Try.ntmps7
  have early : ∀ {R : Ending → World → Prop}, (∀ e w', e = .returned (.bool true) ∧ Below w.heap.size w w' → R e w') → Calls Try.prog 8 #[] w R := fun h => Calls.mono (wakes_any w) h
  by_cases h1 : 24 < l.length
  · have d1 : decide ((24 : Int) < (l.length : Int)) = true := by simp; omega
    go_wp2_with fail
    refine early ?_
    rintro e w' ⟨rfl, hbk⟩
    go_wp2
    go_ret
    exact ⟨rfl, hbk⟩
  have d1 : decide ((24 : Int) < (l.length : Int)) = false := by simp; omega
  by_cases h2 : x < -1099511627776
  · have d2 : decide (x < -1099511627776) = true := by simp; omega
    go_wp2_with fail
    refine early ?_
    rintro e w' ⟨rfl, hbk⟩
    go_wp2
    go_ret
    exact ⟨rfl, hbk⟩
  have d2 : decide (x < -1099511627776) = false := by simp; omega
  by_cases h3 : 1099511627776 < x
  · have d3 : decide (1099511627776 < x) = true := by simp; omega
    go_wp2_with fail
    refine early ?_
    rintro e w' ⟨rfl, hbk⟩
    go_wp2
    go_ret
    exact ⟨rfl, hbk⟩
  have d3 : decide (1099511627776 < x) = false := by simp; omega
  by_cases h4 : y < -1099511627776
  · have d4 : decide (y < -1099511627776) = true := by simp; omega
    go_wp2_with fail
    refine early ?_
    rintro e w' ⟨rfl, hbk⟩
    go_wp2
    go_ret
    exact ⟨rfl, hbk⟩
  have d4 : decide (y < -1099511627776) = false := by simp; omega
  by_cases h5 : 1099511627776 < y
  · have d5 : decide (1099511627776 < y) = true := by simp; omega
    go_wp2_with fail
    refine early ?_
    rintro e w' ⟨rfl, hbk⟩
    go_wp2
    go_ret
    exact ⟨rfl, hbk⟩
  have d5 : decide (1099511627776 < y) = false := by simp; omega
  clear early
  go_wp2
  go_loopw [11] (fun i wr => ∃ k : Nat, k ≤ l.length ∧ i = .int .i64 k ∧ St w wr [(.slice pa l.length ca, l)] ∧ Hid (∀ r ∈ l.take k, emptyR r = false → shiftR r dx dy ≠ zeroRc)) (fun i _ => l.length - (intOf i).toNat)
  case atStart => exact ⟨0, by omega, rfl, S0, Lib.hid (fun r h => by simp at h)⟩
  case round =>
    obtain ⟨k, hk, rfl, SL, HN⟩ := hrel
    by_cases hlt : k < l.length
    · obtain ⟨b, off, rfl, hB, hc⟩ := (hp0.below SL.below).rc hlt
      have hft := Hf.out l[k] (List.getElem_mem hlt)
      have Hnext := Lib.hid (show (emptyR l[k] = false → shiftR l[k] dx dy ≠ zeroRc) → ∀ r ∈ l.take (k + 1), emptyR r = false → shiftR r dx dy ≠ zeroRc from fun h r hr => by
        rw [List.take_succ_eq_append_getElem hlt] at hr
        rcases List.mem_append.1 hr with hr | hr
        · exact HN.out r hr
        · simp only [List.mem_singleton] at hr
          rw [hr]; exact h)
      have Hl := Lib.hid (hc k hlt)
      obtain ⟨a0, a1, a2, a3⟩ := Hl.out
      clear hc
      generalize l[k] = r at *
      go_wp2_with fail
      refine Calls.mono (empty_any r _ hft) ?_
      rintro e w1 ⟨rfl, hb1⟩
      have SL1 := SL.later hb1
      obtain ⟨n0, n1, n2, n3⟩ := Hl.out.later hb1
      cases he : emptyR r
      · have He := Lib.hid he
        clear he
        go_wp2_with fail
        refine Calls.mono (shift_any r dx dy _ hft) ?_
        rintro e w2 ⟨rfl, hb2⟩
        have SL2 := SL1.later hb2
        have Hq := Lib.hid (show eqR (shiftR r dx dy) zeroRc = false → shiftR r dx dy ≠ zeroRc from eqR_zero.1)
        generalize shiftR r dx dy = s at *
        clear n0 n1 n2 n3 a0 a1 a2 a3
        cases hz : eqR s ⟨0, 0, 0, 0⟩
        · have HN2 := Lib.hid (Hnext.out (fun _ => Hq.out hz))
          have Hz := Lib.hid hz
          go_wp2
          go_roundw
          case rel => exact ⟨k + 1, by omega, by go_num, SL2, HN2⟩
          case measure => simp [intOf]; omega
        · go_wp2_with fail
          refine Calls.mono (wakes_any _) ?_
          rintro e w3 ⟨rfl, hb3⟩
          have SL3 := SL2.later hb3
          go_wp2
          go_ret
          exact ⟨rfl, SL3.below⟩
      · have HN2 := Lib.hid (Hnext.out (fun h => by rw [he] at h; cases h))
        have He := Lib.hid he
        clear he n0 n1 n2 n3 a0 a1 a2 a3
        go_wp2
        go_roundw
        case rel => exact ⟨k + 1, by omega, by go_num, SL1, HN2⟩
        case measure => simp [intOf]; omega
    obtain rfl : k = l.length := by omega
    have hs : ∀ r ∈ l, emptyR r = false → shiftR r dx dy ≠ zeroRc := by
      have := HN.out
      rwa [List.take_length] at this
    clear HN hp0 heq S0
    have el : l.length ≤ 24 := by omega
    have qs := form_small (mf := fun p _ => p) (a := shiftL l dx dy) (b := []) (by simpa [shiftL] using el) (by simp)
    obtain ⟨A, hA⟩ : ∃ A, areaS (formL (fun p _ => p) l []) = A := ⟨_, rfl⟩
    have hAs : areaS (formL (fun p _ => p) (formL (fun p _ => p) (shiftL l dx dy) []) []) = A := by rw [shift_again, shift_area hs, hA]
    have S0 := SL
    clear SL
    go_wp2_with fail
    refine Calls.mono (own_st S0 (xs := l) (by repeat (first | exact List.Mem.head _ | apply List.Mem.tail)) (by omega)) ?_
    rintro e w1 ⟨u1, rfl, S1⟩
    go_wp2_with fail
    refine Calls.mono (shift_st S1 (a := l) (by repeat (first | exact List.Mem.head _ | apply List.Mem.tail)) dx dy (by omega) (ys := (formL (fun p _ => p) (shiftL l dx dy) [])) rfl) ?_
    rintro e w2 ⟨p2, c2, rfl, S2⟩
    go_wp2_with fail
    refine Calls.mono (form_st S2 (fun p _ => p) rfl (a := shiftL l dx dy) (b := []) (by repeat (first | exact List.Mem.head _ | apply List.Mem.tail))) ?_
    rintro e w3 ⟨rfl, S3⟩
    go_wp2_with fail
    refine Calls.mono (area2_st S3 (a := l) (by repeat (first | exact List.Mem.head _ | apply List.Mem.tail)) (by omega) hA) ?_
    rintro e w4 ⟨rfl, S4⟩
    by_cases hA0 : A = 0
    · have hsn : formL (fun p _ => p) (shiftL l dx dy) [] = [] := by rw [shift_form hs, form_area_zero _ rfl _ _ (hA.trans hA0)]; rfl
      have hAz : ((A : Int) == 0) = true := by simp [hA0]
      rw [hsn] at S4 ⊢
      go_wp2_with fail
      refine Calls.mono (wakes_any w4) ?_
      rintro e w5 ⟨rfl, hbk⟩
      have S5 := S4.later hbk
      go_wp2
      go_ret
      exact ⟨rfl, S5.below⟩
    · have hAz : ((A : Int) == 0) = false := by simpa using hA0
      obtain ⟨⟨t1, t2⟩, t3, t4⟩ := shift_short hs (by rw [hA]; exact hA0)
      have z1 : IntKind.i64.wrap (x + dx) = x + dx := IntWalk.i64_in _ (by omega)
      have z2 : IntKind.i64.wrap (y + dy) = y + dy := IntWalk.i64_in _ (by omega)
      have z3 : IntKind.i64.wrap (-dx) = -dx := IntWalk.i64_in _ (by omega)
      have z4 : IntKind.i64.wrap (-dy) = -dy := IntWalk.i64_in _ (by omega)
      obtain ⟨P, hP⟩ : ∃ P, pix l x y = P := ⟨_, rfl⟩
      have hPs : pix (formL (fun p _ => p) (shiftL l dx dy) []) (x + dx) (y + dy) = P := by
        rw [pix_ofform, shift_pix hs, Int.add_sub_cancel, Int.add_sub_cancel, hP]
      have hback : formL (fun p _ => p) (shiftL (formL (fun p _ => p) (shiftL l dx dy) []) (-dx) (-dy)) [] = formL (fun p _ => p) l [] := by rw [shift_back hs, shift_again]
      go_wp2_with fail
      refine Calls.mono (area2_st S4 (a := (formL (fun p _ => p) (shiftL l dx dy) [])) (by repeat (first | exact List.Mem.head _ | apply List.Mem.tail)) (by omega) hAs) ?_
      rintro e w5 ⟨rfl, S5⟩
      go_wp2_with fail
      refine Calls.mono (area2_st S5 (a := l) (by repeat (first | exact List.Mem.head _ | apply List.Mem.tail)) (by omega) hA) ?_
      rintro e w6 ⟨rfl, S6⟩
      go_wp2_with fail
      refine Calls.mono (has_st S6 (a := (formL (fun p _ => p) (shiftL l dx dy) [])) (x := (x + dx)) (y := (y + dy)) (by repeat (first | exact List.Mem.head _ | apply List.Mem.tail)) (t := P) (hPs)) ?_
      rintro e w7 ⟨rfl, S7⟩
      go_wp2_with fail
      refine Calls.mono (has_st S7 (a := l) (x := x) (y := y) (by repeat (first | exact List.Mem.head _ | apply List.Mem.tail)) (t := P) (hP)) ?_
      rintro e w8 ⟨rfl, S8⟩
      go_wp2_with fail
      refine Calls.mono (shift_st S8 (a := (formL (fun p _ => p) (shiftL l dx dy) [])) (by repeat (first | exact List.Mem.head _ | apply List.Mem.tail)) (-dx) (-dy) (by omega) (ys := (formL (fun p _ => p) l [])) hback) ?_
      rintro e w9 ⟨p9, c9, rfl, S9⟩
      go_wp2_with fail
      refine Calls.mono (own_st S9 (xs := l) (by repeat (first | exact List.Mem.head _ | apply List.Mem.tail)) (by omega)) ?_
      rintro e w10 ⟨u10, rfl, S10⟩
      go_wp2_with fail
      refine Calls.mono (of_st S10 (a := l) (by repeat (first | exact List.Mem.head _ | apply List.Mem.tail)) (by omega)) ?_
      rintro e w11 ⟨p11, c11, rfl, S11⟩
      go_wp2_with fail
      refine Calls.mono (lawRects_st S11 (a := (formL (fun p _ => p) l [])) (b := (formL (fun p _ => p) l [])) (by repeat (first | exact List.Mem.head _ | apply List.Mem.tail)) (by repeat (first | exact List.Mem.head _ | apply List.Mem.tail)) (t := true) (eqRs_iff.2 rfl)) ?_
      rintro e w12 ⟨rfl, S12⟩
      go_wp2_with fail
      refine Calls.mono (wakes_any w12) ?_
      rintro e w13 ⟨rfl, hbk⟩
      have S13 := S12.later hbk
      go_wp2
      go_ret
      exact ⟨rfl, S13.below⟩

end Go.Proofs.Ytjgbelljijhfcaa
