/- Several texts in one, each with its own head. -/
import Derived.Test.YtajoipmchgabfaaM2
/- Plain facts on rectangles as four whole numbers: what And, Or, In, Has, Area and Shift have to do with each other. -/
namespace Go.Proofs.Ytajoipmchgabfaa

theorem Rc.eq_of {r s : Rc} (h1 : r.x = s.x) (h2 : r.y = s.y) (h3 : r.a = s.a) (h4 : r.b = s.b) : r = s := by
  cases r; cases s; simp_all
theorem eqR_self (r : Rc) : eqR r r = true := by simp [eqR]
theorem eqR_iff {r s : Rc} : eqR r s = true ↔ r = s := by
  constructor
  · intro h
    have h : r.x = s.x ∧ r.y = s.y ∧ r.a = s.a ∧ r.b = s.b := by simpa [eqR] using h
    exact Rc.eq_of h.1 h.2.1 h.2.2.1 h.2.2.2
  · intro h; subst h; simp [eqR]
theorem emptyR_true {r : Rc} : emptyR r = true ↔ ¬ ((-1048576 ≤ r.x ∧ 0 < r.a ∧ r.a ≤ 1048576 - r.x) ∧ (-1048576 ≤ r.y ∧ 0 < r.b ∧ r.b ≤ 1048576 - r.y)) := by
  rw [← emptyR_false]; cases emptyR r <;> simp
theorem zero_empty : emptyR zeroRc = true := by decide

/-- What two have in common: the zero one, or the rectangle between. -/
theorem and_spec (r s : Rc) :
    (andR r s = zeroRc ∧ (emptyR r = true ∨ emptyR s = true ∨ min (r.x + r.a) (s.x + s.a) ≤ max r.x s.x ∨ min (r.y + r.b) (s.y + s.b) ≤ max r.y s.y)) ∨
    (andR r s = midR r s ∧ emptyR r = false ∧ emptyR s = false ∧ max r.x s.x < min (r.x + r.a) (s.x + s.a) ∧ max r.y s.y < min (r.y + r.b) (s.y + s.b) ∧ emptyR (midR r s) = false) := by
  cases hr : emptyR r
  · cases hs : emptyR s
    · cases hm : emptyR (midR r s)
      · right
        have h := emptyR_false.1 hm
        simp only [midR] at h
        exact ⟨by simp [andR, hr, hs, hm], rfl, rfl, by omega, by omega, rfl⟩
      · left
        have h := emptyR_true.1 hm
        have h1 := emptyR_false.1 hr
        have h2 := emptyR_false.1 hs
        simp only [midR] at h
        refine ⟨by simp [andR, hm], Or.inr (Or.inr ?_)⟩
        omega
    · exact Or.inl ⟨by simp [andR, hs], Or.inr (Or.inl rfl)⟩
  · exact Or.inl ⟨by simp [andR, hr], Or.inl rfl⟩

theorem and_fit (r s : Rc) : Fit (andR r s) := by
  rcases and_spec r s with ⟨e, _⟩ | ⟨e, _, _, _, _, h⟩
  · rw [e]; exact ⟨by decide, by decide⟩
  · have := emptyR_false.1 h
    rw [e]; exact ⟨by omega, by omega⟩

theorem has_iff {r : Rc} {x y : Int} : hasR r x y = true ↔ emptyR r = false ∧ (r.x ≤ x ∧ x < r.x + r.a) ∧ (r.y ≤ y ∧ y < r.y + r.b) := by
  have h1 : hasR r x y = true ↔ goodR r = true ∧ (r.x ≤ x ∧ x < r.x + r.a) ∧ (r.y ≤ y ∧ y < r.y + r.b) := by simp [hasR, wayHas]
  rw [h1, goodR_iff, emptyR_false]
  omega

/-- A pixel is in what two have in common just if both have it. -/
theorem has_and (r s : Rc) (x y : Int) : hasR (andR r s) x y = (hasR r x y && hasR s x y) := by
  rw [Bool.eq_iff_iff, Bool.and_eq_true, has_iff, has_iff, has_iff]
  rcases and_spec r s with ⟨e, h⟩ | ⟨e, hr, hs, h1, h2, h⟩
  · rw [e, zero_empty]
    simp only [Bool.true_eq_false, false_and, false_iff]
    rintro ⟨⟨a1, a2, a3⟩, b1, b2, b3⟩
    rcases h with h | h | h
    · rw [a1] at h; cases h
    · rw [b1] at h; cases h
    · omega
  · rw [e, h, hr, hs]
    simp only [midR, true_and]
    omega

theorem and_comm (r s : Rc) : andR r s = andR s r := by
  rcases and_spec r s with ⟨e, h⟩ | ⟨e, hr, hs, h1, h2, h⟩ <;> rcases and_spec s r with ⟨e', h'⟩ | ⟨e', hr', hs', h1', h2', h''⟩
  · rw [e, e']
  · rcases h with h | h | h
    · rw [hs'] at h; cases h
    · rw [hr'] at h; cases h
    · omega
  · rcases h' with h' | h' | h'
    · rw [hs] at h'; cases h'
    · rw [hr] at h'; cases h'
    · omega
  · rw [e, e']; apply Rc.eq_of <;> simp only [midR] <;> omega

theorem and_zero_left (s : Rc) : andR zeroRc s = zeroRc := by simp [andR, zero_empty]
theorem and_zero_right (s : Rc) : andR s zeroRc = zeroRc := by simp [andR, zero_empty]

theorem and_self (r : Rc) (h : emptyR r = false) : andR r r = r := by
  have h0 := emptyR_false.1 h
  rcases and_spec r r with ⟨e, h'⟩ | ⟨e, _⟩
  · rw [h] at h'
    simp at h'
    omega
  · rw [e]; apply Rc.eq_of <;> simp only [midR] <;> omega

theorem add_sub_back (p q : Int) : p + (q - p) = q := by omega
theorem lt_mm {a b c d : Int} : max a b < min c d ↔ a < c ∧ a < d ∧ b < c ∧ b < d := by omega
theorem le_mm {a b c d : Int} : min c d ≤ max a b ↔ c ≤ a ∨ c ≤ b ∨ d ≤ a ∨ d ≤ b := by omega

/-- Three have a rectangle in common, in whatever order it is asked. -/
def Meet3 (r s t : Rc) : Prop :=
  (r.x < s.x + s.a ∧ r.x < t.x + t.a ∧ s.x < r.x + r.a ∧ s.x < t.x + t.a ∧ t.x < r.x + r.a ∧ t.x < s.x + s.a) ∧
  (r.y < s.y + s.b ∧ r.y < t.y + t.b ∧ s.y < r.y + r.b ∧ s.y < t.y + t.b ∧ t.y < r.y + r.b ∧ t.y < s.y + s.b)

theorem and_left3 (r s t : Rc) :
    (andR (andR r s) t = zeroRc ∧ ¬ (emptyR r = false ∧ emptyR s = false ∧ emptyR t = false ∧ Meet3 r s t)) ∨
    (andR (andR r s) t = midR (midR r s) t ∧ (emptyR r = false ∧ emptyR s = false ∧ emptyR t = false ∧ Meet3 r s t)) := by
  rcases and_spec r s with ⟨e2, h2⟩ | ⟨e2, b1, b2, b3, b4, b5⟩
  · left
    rw [e2, and_zero_left]
    refine ⟨rfl, ?_⟩
    rintro ⟨a1, a2, _, m1, m2⟩
    rw [a1, a2, le_mm, le_mm] at h2
    have := emptyR_false.1 a1
    have := emptyR_false.1 a2
    simp at h2
    omega
  · rw [e2]
    have k1 := emptyR_false.1 b1
    have k2 := emptyR_false.1 b2
    rw [lt_mm] at b3 b4
    rcases and_spec (midR r s) t with ⟨e3, h3⟩ | ⟨e3, c1, c2, c3, c4, c5⟩
    · left
      refine ⟨e3, ?_⟩
      rintro ⟨a1, a2, a3, m1, m2⟩
      have k3 := emptyR_false.1 a3
      rw [b5, a3] at h3
      simp only [midR, add_sub_back, Bool.false_eq_true, false_or] at h3
      rcases h3 with h3 | h3
      · clear m2 b4; omega
      · clear m1 b3; omega
    · right
      refine ⟨e3, b1, b2, c2, ?_, ?_⟩
      · simp only [midR, add_sub_back] at c3
        clear c4 b4; have := emptyR_false.1 c2; omega
      · simp only [midR, add_sub_back] at c4
        clear c3 b3; have := emptyR_false.1 c2; omega

theorem and_right3 (r s t : Rc) :
    (andR r (andR s t) = zeroRc ∧ ¬ (emptyR r = false ∧ emptyR s = false ∧ emptyR t = false ∧ Meet3 r s t)) ∨
    (andR r (andR s t) = midR r (midR s t) ∧ (emptyR r = false ∧ emptyR s = false ∧ emptyR t = false ∧ Meet3 r s t)) := by
  rcases and_spec s t with ⟨e2, h2⟩ | ⟨e2, b1, b2, b3, b4, b5⟩
  · left
    rw [e2, and_zero_right]
    refine ⟨rfl, ?_⟩
    rintro ⟨_, a1, a2, m1, m2⟩
    rw [a1, a2, le_mm, le_mm] at h2
    have := emptyR_false.1 a1
    have := emptyR_false.1 a2
    simp at h2
    omega
  · rw [e2]
    have k1 := emptyR_false.1 b1
    have k2 := emptyR_false.1 b2
    rw [lt_mm] at b3 b4
    rcases and_spec r (midR s t) with ⟨e3, h3⟩ | ⟨e3, c1, c2, c3, c4, c5⟩
    · left
      refine ⟨e3, ?_⟩
      rintro ⟨a1, a2, a3, m1, m2⟩
      have k3 := emptyR_false.1 a1
      rw [b5, a1] at h3
      simp only [midR, add_sub_back, Bool.false_eq_true, false_or] at h3
      rcases h3 with h3 | h3
      · clear m2 b4; omega
      · clear m1 b3; omega
    · right
      refine ⟨e3, c1, b1, b2, ?_, ?_⟩
      · simp only [midR, add_sub_back] at c3
        clear c4 b4; have := emptyR_false.1 c1; omega
      · simp only [midR, add_sub_back] at c4
        clear c3 b3; have := emptyR_false.1 c1; omega

theorem and_assoc' (r s t : Rc) : andR r (andR s t) = andR (andR r s) t := by
  rcases and_left3 r s t with ⟨e1, h1⟩ | ⟨e1, h1⟩ <;> rcases and_right3 r s t with ⟨e2, h2⟩ | ⟨e2, h2⟩
  · rw [e1, e2]
  · exact absurd h2 h1
  · exact absurd h1 h2
  · rw [e1, e2]
    simp only [midR, add_sub_back]
    rw [Int.max_assoc, Int.max_assoc, Int.min_assoc, Int.min_assoc]

/-- One has the other: none has pixels, or the numbers tell it. -/
theorem in_iff {r s : Rc} : inR r s = true ↔ emptyR r = true ∨ (emptyR r = false ∧ emptyR s = false ∧ s.x ≤ r.x ∧ r.x + r.a ≤ s.x + s.a ∧ s.y ≤ r.y ∧ r.y + r.b ≤ s.y + s.b) := by
  unfold inR
  rw [Bool.or_eq_true, eqR_iff]
  cases hr : emptyR r
  · have h0 := emptyR_false.1 hr
    simp only [Bool.false_eq_true, false_or, true_and]
    rcases and_spec r s with ⟨e, h⟩ | ⟨e, _, hs, h1, h2, h⟩
    · rw [e]
      constructor
      · intro hz; rw [← hz, zero_empty] at hr; cases hr
      · rintro ⟨hs, a1, a2, a3, a4⟩
        rw [hr, hs] at h
        simp at h
        have := emptyR_false.1 hs
        omega
    · rw [e, hs]
      constructor
      · intro hz
        have e1 : (midR r s).x = r.x := by rw [hz]
        have e2 : (midR r s).y = r.y := by rw [hz]
        have e3 : (midR r s).a = r.a := by rw [hz]
        have e4 : (midR r s).b = r.b := by rw [hz]
        simp only [midR] at e1 e2 e3 e4
        refine ⟨rfl, by omega, by omega, by omega, by omega⟩
      · rintro ⟨_, a1, a2, a3, a4⟩
        apply Rc.eq_of <;> simp only [midR] <;> omega
  · simp

theorem in_self (r : Rc) : inR r r = true := by
  rw [in_iff]
  cases hr : emptyR r
  · right; exact ⟨rfl, rfl, by omega, by omega, by omega, by omega⟩
  · left; rfl

theorem in_trans {r s t : Rc} (h1 : inR r s = true) (h2 : inR s t = true) : inR r t = true := by
  rw [in_iff] at *
  rcases h1 with h1 | ⟨a1, a2, a3⟩
  · exact Or.inl h1
  · rcases h2 with h2 | ⟨b1, b2, b3⟩
    · rw [a2] at h2; cases h2
    · exact Or.inr ⟨a1, b2, by omega, by omega, by omega, by omega⟩

theorem area_zero {r : Rc} (h : emptyR r = true) : areaR r = 0 := by simp [areaR, h]
theorem area_full {r : Rc} (h : emptyR r = false) : areaR r = r.a * r.b := by simp [areaR, h]
theorem area_nonneg (r : Rc) : 0 ≤ areaR r := by
  cases h : emptyR r
  · have := emptyR_false.1 h
    rw [area_full h]; exact Int.mul_nonneg (by omega) (by omega)
  · rw [area_zero h]; exact Int.le_refl 0
theorem area_pos {r : Rc} (h : emptyR r = false) : 0 < areaR r := by
  have := emptyR_false.1 h
  rw [area_full h]; exact Int.mul_pos (by omega) (by omega)

theorem area_mono {r s : Rc} (h : inR r s = true) : areaR r ≤ areaR s := by
  rw [in_iff] at h
  rcases h with h | ⟨a1, a2, a3⟩
  · rw [area_zero h]; exact area_nonneg s
  · have h1 := emptyR_false.1 a1
    have h2 := emptyR_false.1 a2
    rw [area_full a1, area_full a2]
    exact Int.mul_le_mul (by omega) (by omega) (by omega) (by omega)

end Go.Proofs.Ytajoipmchgabfaa

/- More plain facts on rectangles: Or, and what is in what. -/
namespace Go.Proofs.Ytajoipmchgabfaa

theorem or_spec (r s : Rc) : (emptyR r = true ∧ emptyR s = true ∧ orR r s = zeroRc) ∨ (emptyR r = true ∧ emptyR s = false ∧ orR r s = s) ∨ (emptyR r = false ∧ emptyR s = true ∧ orR r s = r) ∨ (emptyR r = false ∧ emptyR s = false ∧ orR r s = allR r s ∧ emptyR (allR r s) = false) := by
  cases hr : emptyR r <;> cases hs : emptyR s
  · have h1 := emptyR_false.1 hr
    have h2 := emptyR_false.1 hs
    exact Or.inr (Or.inr (Or.inr ⟨rfl, rfl, by simp [orR, hr, hs], emptyR_false.2 (by simp only [allR]; omega)⟩))
  · exact Or.inr (Or.inr (Or.inl ⟨rfl, rfl, by simp [orR, hr, hs]⟩))
  · exact Or.inr (Or.inl ⟨rfl, rfl, by simp [orR, hr, hs]⟩)
  · exact Or.inl ⟨rfl, rfl, by simp [orR, hr, hs]⟩

theorem or_comm' (r s : Rc) : orR s r = orR r s := by
  rcases or_spec r s with ⟨a1, a2, e⟩ | ⟨a1, a2, e⟩ | ⟨a1, a2, e⟩ | ⟨a1, a2, e, _⟩ <;> rw [e]
  · simp [orR, a1, a2]
  · simp [orR, a1, a2]
  · simp [orR, a1, a2]
  · simp only [orR, a1, a2, Bool.false_eq_true, if_false]
    apply Rc.eq_of <;> simp only [allR] <;> omega

theorem or_fit {r s : Rc} (hr : Fit r) (hs : Fit s) : Fit (orR r s) := by
  rcases or_spec r s with ⟨a1, a2, e⟩ | ⟨a1, a2, e⟩ | ⟨a1, a2, e⟩ | ⟨a1, a2, e, h⟩ <;> rw [e]
  · exact ⟨by decide, by decide⟩
  · exact hs
  · exact hr
  · have := emptyR_false.1 h
    exact ⟨by omega, by omega⟩

theorem in_or_left (r s : Rc) : inR r (orR r s) = true := by
  rw [in_iff]
  rcases or_spec r s with ⟨a1, a2, e⟩ | ⟨a1, a2, e⟩ | ⟨a1, a2, e⟩ | ⟨a1, a2, e, h⟩
  · exact Or.inl a1
  · exact Or.inl a1
  · rw [e]; exact Or.inr ⟨a1, a1, by omega, by omega, by omega, by omega⟩
  · rw [e]; refine Or.inr ⟨a1, h, ?_⟩
    simp only [allR]; omega
theorem in_or_right (r s : Rc) : inR s (orR r s) = true := by rw [← or_comm' r s]; exact in_or_left s r

theorem in_and_left (r s : Rc) : inR (andR r s) r = true := by
  rw [in_iff]
  rcases and_spec r s with ⟨e, _⟩ | ⟨e, a1, a2, a3, a4, h⟩
  · rw [e]; exact Or.inl zero_empty
  · rw [e]; refine Or.inr ⟨h, a1, ?_⟩
    simp only [midR]; omega
theorem in_and_right (r s : Rc) : inR (andR r s) s = true := by rw [and_comm]; exact in_and_left s r

theorem in_has {r s : Rc} {x y : Int} (h : inR r s = true) (hp : hasR r x y = true) : hasR s x y = true := by
  rw [in_iff] at h
  rw [has_iff] at hp ⊢
  rcases h with h | ⟨a1, a2, a3⟩
  · rw [hp.1] at h; cases h
  · exact ⟨a2, by omega, by omega⟩

theorem empty_in {r s : Rc} (h : emptyR r = true) : inR r s = true := by rw [in_iff]; exact Or.inl h

theorem area_empty {r : Rc} (h : emptyR r = false) : (areaR r == 0) = false := by
  have := area_pos h
  simp; omega

theorem corner_has {r : Rc} (h : emptyR r = false) : hasR r r.x r.y = true ∧ hasR r (r.x + r.a - 1) (r.y + r.b - 1) = true ∧ hasR r (r.x - 1) r.y = false ∧ hasR r r.x (r.y + r.b) = false := by
  have h0 := emptyR_false.1 h
  have neg : ∀ x y, ¬ ((r.x ≤ x ∧ x < r.x + r.a) ∧ (r.y ≤ y ∧ y < r.y + r.b)) → hasR r x y = false := fun x y hn => by
    cases hh : hasR r x y
    · rfl
    · exact absurd (has_iff.1 hh).2 hn
  exact ⟨has_iff.2 ⟨h, by omega, by omega⟩, has_iff.2 ⟨h, by omega, by omega⟩, neg _ _ (by omega), neg _ _ (by omega)⟩

/-- Of all rectangles that have both, Or is the least. -/
theorem or_least {r s t : Rc} (hr : inR r t = true) (hs : inR s t = true) : inR (orR r s) t = true := by
  rw [in_iff] at *
  rcases or_spec r s with ⟨a1, a2, e⟩ | ⟨a1, a2, e⟩ | ⟨a1, a2, e⟩ | ⟨a1, a2, e, h⟩ <;> rw [e]
  · exact Or.inl zero_empty
  · exact hs
  · exact hr
  · rcases hr with hr | ⟨b1, b2, b3⟩
    · rw [a1] at hr; cases hr
    · rcases hs with hs | ⟨c1, c2, c3⟩
      · rw [a2] at hs; cases hs
      · refine Or.inr ⟨h, b2, ?_⟩
        simp only [allR]; omega

theorem or_assoc_full {r s t : Rc} (hr : emptyR r = false) (hs : emptyR s = false) (ht : emptyR t = false) : orR (orR r s) t = orR r (orR s t) := by
  have h1 := emptyR_false.1 hr
  have h2 := emptyR_false.1 hs
  have h3 := emptyR_false.1 ht
  have e1 : orR r s = allR r s := by simp [orR, hr, hs]
  have e2 : orR s t = allR s t := by simp [orR, hs, ht]
  have m1 : emptyR (allR r s) = false := emptyR_false.2 (by simp only [allR]; omega)
  have m2 : emptyR (allR s t) = false := emptyR_false.2 (by simp only [allR]; omega)
  rw [e1, e2]
  simp only [orR, hr, ht, m1, m2, Bool.false_eq_true, if_false]
  simp only [allR, add_sub_back]
  rw [Int.min_assoc, Int.min_assoc, Int.max_assoc, Int.max_assoc]

end Go.Proofs.Ytajoipmchgabfaa
