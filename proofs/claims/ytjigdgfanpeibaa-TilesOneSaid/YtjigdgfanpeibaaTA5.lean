/- More plain facts on rectangles: Or, and what is in what. -/
import Derived.Test.YtjigdgfanpeibaaTA4
namespace Go.Proofs.Ytjigdgfanpeibaa

theorem or_spec (r s : Rc) : (emptyR r = true ∧ emptyR s = true ∧ orR r s = zeroRc) ∨ (emptyR r = true ∧ emptyR s = false ∧ orR r s = s) ∨ (emptyR r = false ∧ emptyR s = true ∧ orR r s = r) ∨ (emptyR r = false ∧ emptyR s = false ∧ orR r s = allR r s ∧ emptyR (allR r s) = false) := by
  cases hr : emptyR r <;> cases hs : emptyR s
  · have h1 := emptyR_false.1 hr
    have h2 := emptyR_false.1 hs
    exact Or.inr (Or.inr (Or.inr ⟨rfl, rfl, by simp [orR, hr, hs], emptyR_false.2 (by simp only [allR]; omega)⟩))
  · exact Or.inr (Or.inr (Or.inl ⟨rfl, rfl, by simp [orR, hr, hs]⟩))
  · exact Or.inr (Or.inl ⟨rfl, rfl, by simp [orR, hr, hs]⟩)
  · exact Or.inl ⟨rfl, rfl, by simp [orR, hr, hs]⟩

theorem or_comm' (r s : Rc) : orR s r = orR r s := by
  rcases or_spec r s with ⟨a1, a2, e⟩ | ⟨a1, a2, e⟩ | ⟨a1, a2, e⟩ | ⟨a1, a2, e, _⟩ <;> rw [e]
  · simp [orR, a1, a2]
  · simp [orR, a1, a2]
  · simp [orR, a1, a2]
  · simp only [orR, a1, a2, Bool.false_eq_true, if_false]
    apply Rc.eq_of <;> simp only [allR] <;> omega

theorem or_fit {r s : Rc} (hr : Fit r) (hs : Fit s) : Fit (orR r s) := by
  rcases or_spec r s with ⟨a1, a2, e⟩ | ⟨a1, a2, e⟩ | ⟨a1, a2, e⟩ | ⟨a1, a2, e, h⟩ <;> rw [e]
  · exact ⟨by decide, by decide⟩
  · exact hs
  · exact hr
  · have := emptyR_false.1 h
    exact ⟨by omega, by omega⟩

theorem in_or_left (r s : Rc) : inR r (orR r s) = true := by
  rw [in_iff]
  rcases or_spec r s with ⟨a1, a2, e⟩ | ⟨a1, a2, e⟩ | ⟨a1, a2, e⟩ | ⟨a1, a2, e, h⟩
  · exact Or.inl a1
  · exact Or.inl a1
  · rw [e]; exact Or.inr ⟨a1, a1, by omega, by omega, by omega, by omega⟩
  · rw [e]; refine Or.inr ⟨a1, h, ?_⟩
    simp only [allR]; omega
theorem in_or_right (r s : Rc) : inR s (orR r s) = true := by rw [← or_comm' r s]; exact in_or_left s r

theorem in_and_left (r s : Rc) : inR (andR r s) r = true := by
  rw [in_iff]
  rcases and_spec r s with ⟨e, _⟩ | ⟨e, a1, a2, a3, a4, h⟩
  · rw [e]; exact Or.inl zero_empty
  · rw [e]; refine Or.inr ⟨h, a1, ?_⟩
    simp only [midR]; omega
theorem in_and_right (r s : Rc) : inR (andR r s) s = true := by rw [and_comm]; exact in_and_left s r

theorem in_has {r s : Rc} {x y : Int} (h : inR r s = true) (hp : hasR r x y = true) : hasR s x y = true := by
  rw [in_iff] at h
  rw [has_iff] at hp ⊢
  rcases h with h | ⟨a1, a2, a3⟩
  · rw [hp.1] at h; cases h
  · exact ⟨a2, by omega, by omega⟩

theorem empty_in {r s : Rc} (h : emptyR r = true) : inR r s = true := by rw [in_iff]; exact Or.inl h

theorem area_empty {r : Rc} (h : emptyR r = false) : (areaR r == 0) = false := by
  have := area_pos h
  simp; omega

theorem corner_has {r : Rc} (h : emptyR r = false) : hasR r r.x r.y = true ∧ hasR r (r.x + r.a - 1) (r.y + r.b - 1) = true ∧ hasR r (r.x - 1) r.y = false ∧ hasR r r.x (r.y + r.b) = false := by
  have h0 := emptyR_false.1 h
  have neg : ∀ x y, ¬ ((r.x ≤ x ∧ x < r.x + r.a) ∧ (r.y ≤ y ∧ y < r.y + r.b)) → hasR r x y = false := fun x y hn => by
    cases hh : hasR r x y
    · rfl
    · exact absurd (has_iff.1 hh).2 hn
  exact ⟨has_iff.2 ⟨h, by omega, by omega⟩, has_iff.2 ⟨h, by omega, by omega⟩, neg _ _ (by omega), neg _ _ (by omega)⟩

/-- Of all rectangles that have both, Or is the least. -/
theorem or_least {r s t : Rc} (hr : inR r t = true) (hs : inR s t = true) : inR (orR r s) t = true := by
  rw [in_iff] at *
  rcases or_spec r s with ⟨a1, a2, e⟩ | ⟨a1, a2, e⟩ | ⟨a1, a2, e⟩ | ⟨a1, a2, e, h⟩ <;> rw [e]
  · exact Or.inl zero_empty
  · exact hs
  · exact hr
  · rcases hr with hr | ⟨b1, b2, b3⟩
    · rw [a1] at hr; cases hr
    · rcases hs with hs | ⟨c1, c2, c3⟩
      · rw [a2] at hs; cases hs
      · refine Or.inr ⟨h, b2, ?_⟩
        simp only [allR]; omega

theorem or_assoc_full {r s t : Rc} (hr : emptyR r = false) (hs : emptyR s = false) (ht : emptyR t = false) : orR (orR r s) t = orR r (orR s t) := by
  have h1 := emptyR_false.1 hr
  have h2 := emptyR_false.1 hs
  have h3 := emptyR_false.1 ht
  have e1 : orR r s = allR r s := by simp [orR, hr, hs]
  have e2 : orR s t = allR s t := by simp [orR, hs, ht]
  have m1 : emptyR (allR r s) = false := emptyR_false.2 (by simp only [allR]; omega)
  have m2 : emptyR (allR s t) = false := emptyR_false.2 (by simp only [allR]; omega)
  rw [e1, e2]
  simp only [orR, hr, ht, m1, m2, Bool.false_eq_true, if_false]
  simp only [allR, add_sub_back]
  rw [Int.min_assoc, Int.min_assoc, Int.max_assoc, Int.max_assoc]

end Go.Proofs.Ytjigdgfanpeibaa
