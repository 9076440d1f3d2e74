/- The statements' closed cases: wakes answers true. -/
import Derived.Test.YtjgbelljijhfcaaWakes2
namespace Go.Proofs.Ytjgbelljijhfcaa
open Go.RowKit

def wA : List Rc := [⟨0, 0, 2, 2⟩, ⟨1, 1, 2, 2⟩]
def wF : List Rc := [⟨0, 0, 2, 1⟩, ⟨0, 1, 3, 1⟩, ⟨1, 2, 2, 1⟩]

theorem wF_canon : Canon [[⟨0, 0, 2, 1⟩], [⟨0, 1, 3, 1⟩], [⟨1, 2, 2, 1⟩]] := by
  refine ⟨⟨0, 1, ⟨by simp, ⟨by decide, by simp, trivial⟩, by decide, by simp⟩, by simp⟩, ?_, ⟨1, 1, ⟨by simp, ⟨by decide, by simp, trivial⟩, by decide, by simp⟩, by simp⟩, ?_, ⟨2, 1, ⟨by simp, ⟨by decide, by simp, trivial⟩, by decide, by simp⟩, by simp⟩, ?_, trivial⟩
  · intro c h; cases h; decide
  · intro c h; cases h; decide
  · intro c h; cases h

theorem hasR_lit {x y a b : Int} (h : emptyR ⟨x, y, a, b⟩ = false) (p q : Int) : hasR ⟨x, y, a, b⟩ p q = decide ((x ≤ p ∧ p < x + a) ∧ (y ≤ q ∧ q < y + b)) := by
  rw [Bool.eq_iff_iff, has_iff]
  simp [h]

theorem wF_form : formL (fun p _ => p) wA [] = wF := by
  have h := form_canon (mf := fun p _ => p) rfl (a := wA) (b := []) wF_canon (by decide) (by
    intro x y
    simp only [pix, wA, List.flatten_cons, List.flatten_nil, List.append_nil, List.nil_append, List.cons_append, List.any_cons, List.any_nil, Bool.or_false]
    rw [hasR_lit (by decide), hasR_lit (by decide), hasR_lit (by decide), hasR_lit (by decide), hasR_lit (by decide)]
    rw [Bool.eq_iff_iff]
    simp only [Bool.or_eq_true, decide_eq_true_eq]
    omega)
  unfold formL
  rw [h]
  rfl

theorem wF_area : areaS (formL (fun p _ => p) wF []) = 7 := by
  rw [← wF_form, shift_again, wF_form]
  decide

theorem wF_is : isL wF = true := by rw [← wF_form]; exact isL_form _ rfl _ _
theorem wN_is : isL [⟨0, 0, 1, 1⟩, ⟨1, 0, 1, 1⟩] = false := by decide

theorem all_fit {l : List Rc} (h : l.any emptyR = false) : ∀ r ∈ l, Fit r := fun r hr => full_fit (by
  cases h1 : emptyR r
  · rfl
  · rw [List.any_eq_true.2 ⟨r, hr, h1⟩] at h; cases h)

set_option maxHeartbeats 1000000 in
theorem wakes_any (w : World) : Makes Try.prog 8 #[] w (.bool true) := by
  unfold Makes
  go_enter Try.func8, Try.ntmps8
  have S0 : St w w [] := ⟨Below.refl _ _, fun v xs h => by cases h⟩
  go_wp2_with fail
  have S1 := S0.add (Below.al1 w _) (Rw.lit w wA #[.int .i64 0, .int .i64 0, .int .i64 2, .int .i64 2, .int .i64 1, .int .i64 1, .int .i64 2, .int .i64 2] 30 2 rfl rfl (by decide)) (all_fit (by decide))
  refine Calls.mono (of_st S1 (a := wA) (by simp) (by decide)) ?_
  rw [wF_form]
  rintro e w1 ⟨p, c, rfl, S2⟩
  have hlF : wF.length = 3 := rfl
  rw [hlF] at S2 ⊢
  go_wp2_with fail
  have S3 := S2.add (Below.al1 w1 _) (Rw.lit w1 wF #[.int .i64 0, .int .i64 0, .int .i64 2, .int .i64 1, .int .i64 0, .int .i64 1, .int .i64 3, .int .i64 1, .int .i64 1, .int .i64 2, .int .i64 2, .int .i64 1] 30 3 rfl rfl (by decide)) (all_fit (by decide))
  refine Calls.mono (refRects_st S3 (a := wF) (b := wF) (by simp) (by simp) (t := true) (by decide)) ?_
  rintro e w2 ⟨rfl, S4⟩
  go_wp2_with fail
  refine Calls.mono (area_st S4 (a := wF) (by simp) (by decide)) ?_
  rw [wF_area]
  rintro e w3 ⟨rfl, S5⟩
  go_wp2_with fail
  refine Calls.mono (is_st S5 (a := wF) (by simp) wF_is) ?_
  rintro e w4 ⟨rfl, S6⟩
  go_wp2_with fail
  have S7 := S6.add (Below.al1 w4 _) (Rw.lit w4 [⟨0, 0, 1, 1⟩, ⟨1, 0, 1, 1⟩] #[.int .i64 0, .int .i64 0, .int .i64 1, .int .i64 1, .int .i64 1, .int .i64 0, .int .i64 1, .int .i64 1] 30 2 rfl rfl (by decide)) (all_fit (by decide))
  refine Calls.mono (is_st S7 (a := [⟨0, 0, 1, 1⟩, ⟨1, 0, 1, 1⟩]) (by simp) wN_is) ?_
  rintro e w5 ⟨rfl, S8⟩
  go_wp2
  go_ret
  exact ⟨rfl, S8.below⟩

end Go.Proofs.Ytjgbelljijhfcaa
