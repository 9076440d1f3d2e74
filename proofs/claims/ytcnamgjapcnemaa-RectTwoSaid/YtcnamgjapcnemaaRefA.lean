/- The walks of the document's own answers for rectangles (Good, Empty, Has, Area): each is the same number as the program's. -/
import Derived.Test.YtcnamgjapcnemaaRectE
namespace Go.Proofs.Ytcnamgjapcnemaa
open Go.RowKit

theorem goodR_false {r : Rc} (h : ¬ ((-1048576 ≤ r.x ∧ 0 ≤ r.a ∧ r.a ≤ 1048576 - r.x) ∧ (-1048576 ≤ r.y ∧ 0 ≤ r.b ∧ r.b ≤ 1048576 - r.y))) : goodR r = false := by
  cases hg : goodR r
  · rfl
  · exact absurd (goodR_iff.1 hg) h

theorem hasR_empty {r : Rc} {x y : Int} (h : emptyR r = true) : hasR r x y = false := by
  cases hh : hasR r x y
  · rfl
  · have h1 : goodR r = true ∧ (r.x ≤ x ∧ x < r.x + r.a) ∧ (r.y ≤ y ∧ y < r.y + r.b) := by simpa [hasR, wayHas] using hh
    have h2 := goodR_iff.1 h1.1
    have h3 : emptyR r = false := emptyR_false.2 (by omega)
    rw [h3] at h; cases h

set_option maxHeartbeats 1000000 in
theorem rgood_any (r : Rc) (w : World) : Makes Try.prog 10 #[RV r] w (.bool (goodR r)) := by
  unfold Makes
  go_enter Try.func10, Try.ntmps10
  go_wp2
  all_goals (go_ret; exact ⟨ret_bool (by rw [Bool.eq_iff_iff, goodR_iff]; simp; omega), Below.al1 _ _⟩)

set_option maxHeartbeats 400000 in
theorem rempty_any (r : Rc) (w : World) : Makes Try.prog 12 #[RV r] w (.bool (emptyR r)) := by
  unfold Makes
  go_enter Try.func12, Try.ntmps12
  go_wp2_with fail
  refine Calls.mono (rgood_any _ _) ?_
  rintro e w1 ⟨rfl, hb1⟩
  have hbw : Below w.heap.size w w1 := Below.thn (Below.al1 _ _) hb1
  obtain ⟨hc0, hc1, hc2, hc3⟩ : Lies w1 w.heap.size r := (Lies.new rfl).later hb1
  cases hg : goodR r
  · have Hg := Lib.hid hg
    clear hg
    go_wp2
    go_ret
    exact ⟨ret_bool (by simp [emptyR, Hg.out]), hbw⟩
  · have Hg := Lib.hid hg
    obtain ⟨⟨g1, g2, g3⟩, g4, g5, g6⟩ := goodR_iff.1 hg
    clear hg
    go_wp2
    all_goals (go_ret; exact ⟨ret_bool (by rw [Bool.eq_iff_iff]; simp [emptyR, Hg.out, fullR, wayFull]; omega), hbw⟩)

set_option maxHeartbeats 1000000 in
theorem rhas_any (r : Rc) (x y : Int) (w : World) : Makes Try.prog 14 #[RV r, .int .i64 x, .int .i64 y] w (.bool (hasR r x y)) := by
  unfold Makes
  go_enter Try.func14, Try.ntmps14
  go_wp2_with fail
  refine Calls.mono (rempty_any _ _) ?_
  rintro e w1 ⟨rfl, hb1⟩
  have hbw : Below w.heap.size w w1 := Below.thn (Below.al1 _ _) hb1
  obtain ⟨hc0, hc1, hc2, hc3⟩ : Lies w1 w.heap.size r := (Lies.new rfl).later hb1
  cases hg : emptyR r
  · have Hg := Lib.hid hg
    have Hgd := Lib.hid (good_of_empty hg)
    obtain ⟨⟨g1, g2, g3⟩, g4, g5, g6⟩ := emptyR_false.1 hg
    clear hg
    go_wp2
    all_goals (go_ret; exact ⟨ret_bool (by rw [Bool.eq_iff_iff]; simp [hasR, Hgd.out, wayHas]; omega), hbw⟩)
  · have Hg := Lib.hid hg
    clear hg
    go_wp2
    go_ret
    exact ⟨ret_bool (by rw [hasR_empty Hg.out]), hbw⟩

set_option maxHeartbeats 400000 in
theorem rarea_any (r : Rc) (w : World) : Makes Try.prog 16 #[RV r] w (.int .i64 (areaR r)) := by
  unfold Makes
  go_enter Try.func16, Try.ntmps16
  go_wp2_with fail
  refine Calls.mono (rempty_any _ _) ?_
  rintro e w1 ⟨rfl, hb1⟩
  have hbw : Below w.heap.size w w1 := Below.thn (Below.al1 _ _) hb1
  cases hg : emptyR r
  · have Hg := Lib.hid hg
    obtain ⟨⟨g1, g2, g3⟩, g4, g5, g6⟩ := emptyR_false.1 hg
    clear hg
    have hm0 : 0 ≤ r.a * r.b := Int.mul_nonneg (by omega) (by omega)
    have hm1 : r.a * r.b ≤ 9223372036854775807 := Int.le_trans (Int.mul_le_mul (show r.a ≤ 2097152 by omega) (show r.b ≤ 2097152 by omega) (by omega) (by omega)) (by decide)
    have hl : Lies w1 w.heap.size r := (Lies.new rfl).later hb1
    obtain ⟨hc0, hc1, hc2, hc3⟩ := hl
    go_wp2
    go_ret
    exact ⟨ret_int (by simp [areaR, Hg.out]), hbw⟩
  · have Hg := Lib.hid hg
    clear hg
    go_wp2
    go_ret
    exact ⟨ret_int (by simp [areaR, Hg.out]), hbw⟩

end Go.Proofs.Ytcnamgjapcnemaa
