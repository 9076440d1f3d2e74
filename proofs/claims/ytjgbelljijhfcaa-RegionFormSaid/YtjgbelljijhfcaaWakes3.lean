/- More contracts over lists that were made: Has, Same, Bounds, Shift, the statements' form. -/
import Derived.Test.YtjgbelljijhfcaaWakes
import Derived.Test.YtjgbelljijhfcaaLawForm
import Derived.Test.YtjgbelljijhfcaaBounds
import Derived.Test.YtjgbelljijhfcaaRegShift
namespace Go.Proofs.Ytjgbelljijhfcaa
open Go.RowKit

theorem has_st {w0 w : World} {l : List (Value × List Rc)} {va : Value} {a : List Rc} (h : St w0 w l) (ha : (va, a) ∈ l) {x y : Int} {t : Bool} (ht : pix a x y = t) :
    Calls Try.prog 17 #[va, .int .i64 x, .int .i64 y] w fun e w' => e = .returned (.bool t) ∧ St w0 w' l := by
  refine Calls.mono (regHas_any va a x y w (h.all _ _ ha).1.row (h.all _ _ ha).2) ?_
  rintro e w' ⟨rfl, hb⟩
  exact ⟨by rw [ht], h.later hb⟩
theorem same_st {w0 w : World} {l : List (Value × List Rc)} {va vb : Value} {a b : List Rc} (h : St w0 w l) (ha : (va, a) ∈ l) (hb : (vb, b) ∈ l) (hlen : a.length + b.length ≤ 67108864) {t : Bool} (ht : decide (bandsOf (stripsL (fun p q => p != q) a b) = []) = t) :
    Calls Try.prog 25 #[va, vb] w fun e w' => e = .returned (.bool t) ∧ St w0 w' l := by
  refine Calls.mono (regSame_any va vb a b w (h.all _ _ ha).1.row (h.all _ _ hb).1.row (h.all _ _ ha).2 (h.all _ _ hb).2 hlen) ?_
  rintro e w' ⟨rfl, hb⟩
  exact ⟨by rw [ht], h.later hb⟩
theorem bounds_st {w0 w : World} {l : List (Value × List Rc)} {va : Value} {a : List Rc} (h : St w0 w l) (ha : (va, a) ∈ l) :
    Calls Try.prog 23 #[va] w fun e w' => e = .returned (RV (boundsL a)) ∧ Fit (boundsL a) ∧ St w0 w' l := by
  refine Calls.mono (bounds_any va a w (h.all _ _ ha).1.row (h.all _ _ ha).2) ?_
  rintro e w' ⟨rfl, hb⟩
  exact ⟨rfl, bounds_fit (h.all _ _ ha).2, h.later hb⟩
theorem rectHas_st {w0 w : World} {l : List (Value × List Rc)} {r : Rc} (h : St w0 w l) (hf : Fit r) {x y : Int} {t : Bool} (ht : hasR r x y = t) :
    Calls Try.prog 28 #[RV r, .int .i64 x, .int .i64 y] w fun e w' => e = .returned (.bool t) ∧ St w0 w' l := by
  refine Calls.mono (has_any r x y w hf) ?_
  rintro e w' ⟨rfl, hb⟩
  exact ⟨by rw [ht], h.later hb⟩
theorem area2_st {w0 w : World} {l : List (Value × List Rc)} {va : Value} {a : List Rc} (h : St w0 w l) (ha : (va, a) ∈ l) (hlen : a.length ≤ 67108864) {A : Int} (hA : areaS (formL (fun p _ => p) a []) = A) :
    Calls Try.prog 19 #[va] w fun e w' => e = .returned (.int .i64 A) ∧ St w0 w' l := by
  rw [← hA]; exact area_st h ha hlen
theorem shift_st {w0 w : World} {l : List (Value × List Rc)} {va : Value} {a : List Rc} (h : St w0 w l) (ha : (va, a) ∈ l) (dx dy : Int) (hlen : a.length ≤ 67108864) {ys : List Rc} (hy : formL (fun p _ => p) (shiftL a dx dy) [] = ys) :
    Calls Try.prog 21 #[va, .int .i64 dx, .int .i64 dy] w fun e w' => ∃ p c, e = .returned (.slice p ys.length c) ∧ St w0 w' ((.slice p ys.length c, ys) :: l) := by
  subst hy
  refine Calls.mono (regShift_any va a dx dy w (h.all _ _ ha).1.row (h.all _ _ ha).2 hlen) ?_
  rintro e w' ⟨u, rfl, hr, hb⟩
  obtain ⟨p, c, rfl⟩ := owns_slice hr
  exact ⟨p, c, rfl, h.add hb (Rw.owned hr) (form_fit _ rfl _ _)⟩
theorem form_st {w0 w : World} {l : List (Value × List Rc)} {va : Value} {a b : List Rc} (h : St w0 w l) (mf : Bool → Bool → Bool) (hff : mf false false = false) (ha : (va, formL mf a b) ∈ l) :
    Calls Try.prog 26 #[va] w fun e w' => e = .returned (.bool true) ∧ St w0 w' l := by
  refine Calls.mono (lawForm_any va _ w (h.all _ _ ha).1.row _ (bands_sem mf hff a b).1 rfl (form_full mf hff a b)) ?_
  rintro e w' ⟨rfl, hb⟩
  exact ⟨rfl, h.later hb⟩

end Go.Proofs.Ytjgbelljijhfcaa
