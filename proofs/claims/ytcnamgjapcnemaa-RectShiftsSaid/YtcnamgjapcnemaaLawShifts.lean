/- The walk of the statement RectShifts. -/
import Derived.Test.YtcnamgjapcnemaaRectWakes
import Derived.Deep.DeepCutAuto
namespace Go.Proofs.Ytcnamgjapcnemaa
open Go.RowKit

theorem shift_out {r : Rc} {dx dy : Int} (h : eqR (shiftR r dx dy) zeroRc = false) :
    (goodR r = true ∧ (-1048576 - r.x ≤ dx ∧ dx ≤ 1048576 - (r.x + r.a)) ∧ (-1048576 - r.y ≤ dy ∧ dy ≤ 1048576 - (r.y + r.b))) ∧ shiftR r dx dy = ⟨r.x + dx, r.y + dy, r.a, r.b⟩ := by
  by_cases hc : (goodR r && (wayShift r.x r.a dx && wayShift r.y r.b dy)) = true
  · refine ⟨by simpa [wayShift] using hc, ?_⟩
    unfold shiftR
    rw [if_pos hc]
  · have : shiftR r dx dy = zeroRc := by unfold shiftR; rw [if_neg hc]
    rw [this, eqR_self] at h
    cases h

theorem shift_good {r : Rc} {dx dy : Int} (h : eqR (shiftR r dx dy) zeroRc = false) : goodR (shiftR r dx dy) = true := by
  obtain ⟨⟨g, h1, h2⟩, e⟩ := shift_out h
  have := goodR_iff.1 g
  rw [e, goodR_iff]
  simp only
  omega

theorem shift_back {r : Rc} {dx dy : Int} (h : eqR (shiftR r dx dy) zeroRc = false) : shiftR (shiftR r dx dy) (-dx) (-dy) = r := by
  have hg := shift_good h
  obtain ⟨⟨g, h1, h2⟩, e⟩ := shift_out h
  rw [e] at hg ⊢
  have k := goodR_iff.1 g
  unfold shiftR
  rw [if_pos]
  · apply Rc.eq_of <;> simp only <;> omega
  · rw [hg]
    simp [wayShift]
    omega

theorem shift_empty {r : Rc} {dx dy : Int} (h : eqR (shiftR r dx dy) zeroRc = false) : emptyR (shiftR r dx dy) = emptyR r := by
  have hg := shift_good h
  obtain ⟨⟨g, h1, h2⟩, e⟩ := shift_out h
  unfold emptyR
  rw [hg, g, e]
  rfl

theorem shift_has {r : Rc} {dx dy : Int} (x y : Int) (h : eqR (shiftR r dx dy) zeroRc = false) : hasR (shiftR r dx dy) (x + dx) (y + dy) = hasR r x y := by
  have he := shift_empty h
  obtain ⟨⟨g, h1, h2⟩, e⟩ := shift_out h
  rw [Bool.eq_iff_iff, has_iff, has_iff, he, e]
  simp only
  constructor
  · rintro ⟨p, q⟩; exact ⟨p, by omega⟩
  · rintro ⟨p, q⟩; exact ⟨p, by omega⟩

theorem shift_area {r : Rc} {dx dy : Int} (h : eqR (shiftR r dx dy) zeroRc = false) : areaR (shiftR r dx dy) = areaR r := by
  have he := shift_empty h
  obtain ⟨_, e⟩ := shift_out h
  unfold areaR
  rw [he, e]

theorem shift_fit (r : Rc) (dx dy : Int) : Fit (shiftR r dx dy) := by
  cases h : eqR (shiftR r dx dy) zeroRc
  · have := goodR_iff.1 (shift_good h)
    exact ⟨by omega, by omega⟩
  · rw [eqR_iff.1 h]; exact ⟨by decide, by decide⟩

set_option maxRecDepth 100000 in
set_option maxHeartbeats 2000000 in
theorem shifts_any (r : Rc) (dx dy x y : Int) (w : World) (hf : Fit r) : Makes Try.prog 6 #[RV r, .int .i64 dx, .int .i64 dy, .int .i64 x, .int .i64 y] w (.bool true) := by
  unfold Makes
  have hq := eql_rc
  have hg := guard_rc
  have hes := eqR_self
  by_cases hr : -1099511627776 ≤ x ∧ x ≤ 1099511627776 ∧ -1099511627776 ≤ y ∧ y ≤ 1099511627776
  · obtain ⟨x1, x2, y1, y2⟩ := hr
    go_enter Try.func6, Try.ntmps6
    go_wp2_with fail
    refine Calls.mono (shift_any _ _ _ _ hf) ?_
    rintro e w1 ⟨rfl, hb1⟩
    have hl1 : Lies w1 w.heap.size r := (Lies.new rfl).later hb1
    have hbw1 : Below w.heap.size w w1 := Below.thn (Below.al1 _ _) hb1
    clear hb1
    go_upto_region 4 with fail
    have hl : Lies (w1.alloc (RO (shiftR r dx dy))) w.heap.size r := hl1.later (Below.al1 _ _)
    have hm : Lies (w1.alloc (RO (shiftR r dx dy))) w1.heap.size (shiftR r dx dy) := Lies.new rfl
    have hbw := Below.thn hbw1 (Below.al1 w1 (RO (shiftR r dx dy)))
    clear hl1 hbw1
    generalize w1.heap.size = N at *
    generalize w1.alloc (RO (shiftR r dx dy)) = W at *
    obtain ⟨a0, a1, a2, a3⟩ := hl.rules
    obtain ⟨b0, b1, b2, b3⟩ := hm.rules
    clear hl hm
    have hne := After.ne W
    have hfs := shift_fit r dx dy
    cases hz : eqR (shiftR r dx dy) zeroRc
    · have hz' : eqR ⟨(shiftR r dx dy).x, (shiftR r dx dy).y, (shiftR r dx dy).a, (shiftR r dx dy).b⟩ ⟨0, 0, 0, 0⟩ = false := hz
      refine wp_region_seq ⟨W, Below.refl _ _⟩ ?_
      repeat (go_big_quiet_step (fail))
      refine wpQuiet_nil ?_
      rintro _ ⟨n1, rfl⟩
      clear hz'
      go_upto_region 6 with fail
      have hgd := shift_good hz
      have hback := shift_back hz
      have hhas := shift_has x y hz
      have harea := shift_area hz
      obtain ⟨⟨g, h1, h2⟩, e⟩ := shift_out hz
      obtain ⟨⟨g1, g2, g3⟩, g4, g5, g6⟩ := goodR_iff.1 g
      obtain ⟨h1, h1'⟩ := h1
      obtain ⟨h2, h2'⟩ := h2
      clear e hz g
      obtain ⟨bh, hh⟩ : ∃ bh, hasR r x y = bh := ⟨_, rfl⟩
      rw [hh] at hhas
      refine wp_region_in n1 (by kernel_rfl) (by kernel_rfl) ?_
      repeat (go_big_quiet_step ((first
        | (go_at_call 9; exact Makes.after (good_eq _ _ hgd hfs))
        | (go_at_call 17; exact Makes.after (shift_eq _ _ _ _ hback hfs))
        | (go_at_call 13; exact Makes.after (has_eq _ _ _ _ (by with_reducible assumption) (by with_reducible assumption)))
        | (go_at_call 15; exact Makes.after (area_any _ _ (by with_reducible assumption)))
        | (go_at_call 19; exact Makes.after (wakes_any _)))))
      refine wpQuiet_nil ?_
      rintro _ ⟨n2, rfl⟩
      go_wp2
      go_ret
      exact ⟨rfl, Below.thn hbw n2.below⟩
    · have hz' : eqR ⟨(shiftR r dx dy).x, (shiftR r dx dy).y, (shiftR r dx dy).a, (shiftR r dx dy).b⟩ ⟨0, 0, 0, 0⟩ = true := hz
      refine wp_region_seq ⟨W, Below.refl _ _⟩ ?_
      repeat (go_big_quiet_step (fail))
      refine wpQuiet_nil ?_
      rintro _ ⟨n1, rfl⟩
      clear hz'
      go_wp2_with fail
      refine Calls.mono (wakes_any _) ?_
      rintro e w2 ⟨rfl, hb2⟩
      go_wp2
      go_ret
      exact ⟨rfl, Below.thn hbw (Below.thn n1.below hb2)⟩
  · by_cases x1 : x < -1099511627776
    · go_enter Try.func6, Try.ntmps6
      go_wp2_with fail
      refine Calls.mono (wakes_any _) ?_
      rintro e w2 ⟨rfl, hb2⟩
      go_wp2
      go_ret
      exact ⟨rfl, Below.thn (Below.al1 _ _) hb2⟩
    by_cases x2 : 1099511627776 < x
    · go_enter Try.func6, Try.ntmps6
      go_wp2_with fail
      refine Calls.mono (wakes_any _) ?_
      rintro e w2 ⟨rfl, hb2⟩
      go_wp2
      go_ret
      exact ⟨rfl, Below.thn (Below.al1 _ _) hb2⟩
    by_cases y1 : y < -1099511627776
    · go_enter Try.func6, Try.ntmps6
      go_wp2_with fail
      refine Calls.mono (wakes_any _) ?_
      rintro e w2 ⟨rfl, hb2⟩
      go_wp2
      go_ret
      exact ⟨rfl, Below.thn (Below.al1 _ _) hb2⟩
    have y2 : 1099511627776 < y := by omega
    clear hr
    go_enter Try.func6, Try.ntmps6
    go_wp2_with fail
    refine Calls.mono (wakes_any _) ?_
    rintro e w2 ⟨rfl, hb2⟩
    go_wp2
    go_ret
    exact ⟨rfl, Below.thn (Below.al1 _ _) hb2⟩

end Go.Proofs.Ytcnamgjapcnemaa
