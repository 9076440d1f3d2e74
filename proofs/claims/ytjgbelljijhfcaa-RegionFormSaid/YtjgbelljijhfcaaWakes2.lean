/- The statements' closed cases (wakes), and the state of a walk that only makes lists. -/
import Derived.Test.YtjgbelljijhfcaaOwn
import Derived.Test.YtjgbelljijhfcaaArea
import Derived.Test.YtjgbelljijhfcaaIsRg
import Derived.Test.YtjgbelljijhfcaaRegRects
import Derived.Test.YtjgbelljijhfcaaMathH
namespace Go.Proofs.Ytjgbelljijhfcaa
open Go.RowKit

theorem Rw.lit (w : World) (l : List Rc) (c : Array Value) (t : TypeId) (n : Nat) (hc : c.toList = flatR l) (hn : n = l.length) (hm : l.length ≤ maxLen) : Rw (w.alloc (.cells c t)) (.slice (some ⟨w.heap.size, 0, none⟩) n n) l := by
  subst hn
  refine ⟨⟨_, _, rfl, Nat.le_refl _, hm, .inr ⟨_, _, rfl, by simp, fun i x hi j u hj => ?_⟩⟩, fun c h => by cases h⟩
  have hj4 : j < 4 := by
    have := (List.getElem?_eq_some_iff.1 hj).1
    simpa [encR] using this
  have h1 := flat_at (enc := encR) (k := 4) (fun _ => rfl) l i j hj4
  rw [hi] at h1
  refine cell_at rfl ?_
  rw [Nat.zero_add, ← Array.getElem?_toList, hc]
  exact h1.trans hj

/-- Lists that were made since w0, each read by its slice. -/
structure St (w0 w : World) (l : List (Value × List Rc)) : Prop where
  below : Below w0.heap.size w0 w
  all : ∀ v xs, (v, xs) ∈ l → Rw w v xs ∧ ∀ r ∈ xs, Fit r

theorem St.add {w0 w w1 : World} {l : List (Value × List Rc)} (h : St w0 w l) (hb : Below w.heap.size w w1) {u : Value} {ys : List Rc} (hu : Rw w1 u ys) (hf : ∀ r ∈ ys, Fit r) : St w0 w1 ((u, ys) :: l) := by
  refine ⟨h.below.trans (hb.mono h.below.size), fun v xs hm => ?_⟩
  rcases List.mem_cons.1 hm with e | e
  · cases e; exact ⟨hu, hf⟩
  · exact ⟨(h.all v xs e).1.below hb, (h.all v xs e).2⟩
theorem St.later {w0 w w1 : World} {l : List (Value × List Rc)} (h : St w0 w l) (hb : Below w.heap.size w w1) : St w0 w1 l :=
  ⟨h.below.trans (hb.mono h.below.size), fun v xs hm => ⟨(h.all v xs hm).1.below hb, (h.all v xs hm).2⟩⟩

theorem own_st {w0 w : World} {l : List (Value × List Rc)} {v : Value} {xs : List Rc} (h : St w0 w l) (hm : (v, xs) ∈ l) (hlen : xs.length ≤ 67108864) :
    Calls Try.prog 9 #[v] w fun e w' => ∃ u, e = .returned u ∧ St w0 w' ((u, xs) :: l) := by
  refine Calls.mono (own_any v xs w (h.all _ _ hm).1 hlen) ?_
  rintro e w' ⟨u, rfl, hr, hb⟩
  exact ⟨u, rfl, h.add hb hr (h.all _ _ hm).2⟩

theorem or_st {w0 w : World} {l : List (Value × List Rc)} {va vb : Value} {a b : List Rc} (h : St w0 w l) (ha : (va, a) ∈ l) (hb : (vb, b) ∈ l) (hlen : a.length + b.length ≤ 67108864) :
    Calls Try.prog 14 #[va, vb] w fun e w' => ∃ p c, e = .returned (.slice p (formL (fun p q => p || q) a b).length c) ∧ St w0 w' ((.slice p (formL (fun p q => p || q) a b).length c, formL (fun p q => p || q) a b) :: l) := by
  refine Calls.mono (regOr_any va vb a b w (h.all _ _ ha).1.row (h.all _ _ hb).1.row (h.all _ _ ha).2 (h.all _ _ hb).2 hlen (form_len _ rfl _ _)) ?_
  rintro e w' ⟨u, rfl, hr, hb⟩
  obtain ⟨p, c, rfl⟩ := owns_slice hr
  exact ⟨p, c, rfl, h.add hb (Rw.owned hr) (form_fit _ rfl _ _)⟩
theorem and_st {w0 w : World} {l : List (Value × List Rc)} {va vb : Value} {a b : List Rc} (h : St w0 w l) (ha : (va, a) ∈ l) (hb : (vb, b) ∈ l) (hlen : a.length + b.length ≤ 67108864) :
    Calls Try.prog 13 #[va, vb] w fun e w' => ∃ p c, e = .returned (.slice p (formL (fun p q => p && q) a b).length c) ∧ St w0 w' ((.slice p (formL (fun p q => p && q) a b).length c, formL (fun p q => p && q) a b) :: l) := by
  refine Calls.mono (regAnd_any va vb a b w (h.all _ _ ha).1.row (h.all _ _ hb).1.row (h.all _ _ ha).2 (h.all _ _ hb).2 hlen (form_len _ rfl _ _)) ?_
  rintro e w' ⟨u, rfl, hr, hb⟩
  obtain ⟨p, c, rfl⟩ := owns_slice hr
  exact ⟨p, c, rfl, h.add hb (Rw.owned hr) (form_fit _ rfl _ _)⟩
theorem minus_st {w0 w : World} {l : List (Value × List Rc)} {va vb : Value} {a b : List Rc} (h : St w0 w l) (ha : (va, a) ∈ l) (hb : (vb, b) ∈ l) (hlen : a.length + b.length ≤ 67108864) :
    Calls Try.prog 15 #[va, vb] w fun e w' => ∃ p c, e = .returned (.slice p (formL (fun p q => p && !q) a b).length c) ∧ St w0 w' ((.slice p (formL (fun p q => p && !q) a b).length c, formL (fun p q => p && !q) a b) :: l) := by
  refine Calls.mono (regMinus_any va vb a b w (h.all _ _ ha).1.row (h.all _ _ hb).1.row (h.all _ _ ha).2 (h.all _ _ hb).2 hlen (form_len _ rfl _ _)) ?_
  rintro e w' ⟨u, rfl, hr, hb⟩
  obtain ⟨p, c, rfl⟩ := owns_slice hr
  exact ⟨p, c, rfl, h.add hb (Rw.owned hr) (form_fit _ rfl _ _)⟩
theorem of_st {w0 w : World} {l : List (Value × List Rc)} {va : Value} {a : List Rc} (h : St w0 w l) (ha : (va, a) ∈ l) (hlen : a.length ≤ 67108864) :
    Calls Try.prog 10 #[va] w fun e w' => ∃ p c, e = .returned (.slice p (formL (fun p _ => p) a []).length c) ∧ St w0 w' ((.slice p (formL (fun p _ => p) a []).length c, formL (fun p _ => p) a []) :: l) := by
  refine Calls.mono (regOf_any va a w (h.all _ _ ha).1.row (h.all _ _ ha).2 hlen (form_len _ rfl _ _)) ?_
  rintro e w' ⟨u, rfl, hr, hb⟩
  obtain ⟨p, c, rfl⟩ := owns_slice hr
  exact ⟨p, c, rfl, h.add hb (Rw.owned hr) (form_fit _ rfl _ _)⟩
theorem lawRects_st {w0 w : World} {l : List (Value × List Rc)} {va vb : Value} {a b : List Rc} (h : St w0 w l) (ha : (va, a) ∈ l) (hb : (vb, b) ∈ l) {t : Bool} (ht : eqRs a b = t) :
    Calls Try.prog 27 #[va, vb] w fun e w' => e = .returned (.bool t) ∧ St w0 w' l := by
  refine Calls.mono (lawRects_any va vb a b w (h.all _ _ ha).1.row (h.all _ _ hb).1.row) ?_
  rintro e w' ⟨rfl, hb⟩
  exact ⟨by rw [ht], h.later hb⟩
theorem refRects_st {w0 w : World} {l : List (Value × List Rc)} {va vb : Value} {a b : List Rc} (h : St w0 w l) (ha : (va, a) ∈ l) (hb : (vb, b) ∈ l) {t : Bool} (ht : eqRs a b = t) :
    Calls Try.prog 11 #[va, vb] w fun e w' => e = .returned (.bool t) ∧ St w0 w' l := by
  refine Calls.mono (refRects_any va vb a b w (h.all _ _ ha).1.row (h.all _ _ hb).1.row) ?_
  rintro e w' ⟨rfl, hb⟩
  exact ⟨by rw [ht], h.later hb⟩
theorem area_st {w0 w : World} {l : List (Value × List Rc)} {va : Value} {a : List Rc} (h : St w0 w l) (ha : (va, a) ∈ l) (hlen : a.length ≤ 67108864) :
    Calls Try.prog 19 #[va] w fun e w' => e = .returned (.int .i64 (areaS (formL (fun p _ => p) a []))) ∧ St w0 w' l := by
  refine Calls.mono (regArea_any va a w (h.all _ _ ha).1.row (h.all _ _ ha).2 hlen) ?_
  rintro e w' ⟨rfl, hb⟩
  exact ⟨rfl, h.later hb⟩
theorem is_st {w0 w : World} {l : List (Value × List Rc)} {va : Value} {a : List Rc} (h : St w0 w l) (ha : (va, a) ∈ l) {t : Bool} (ht : isL a = t) :
    Calls Try.prog 16 #[va] w fun e w' => e = .returned (.bool t) ∧ St w0 w' l := by
  refine Calls.mono (isRg_any va a w (h.all _ _ ha).1.row (h.all _ _ ha).2) ?_
  rintro e w' ⟨rfl, hb⟩
  exact ⟨by rw [ht], h.later hb⟩

end Go.Proofs.Ytjgbelljijhfcaa
