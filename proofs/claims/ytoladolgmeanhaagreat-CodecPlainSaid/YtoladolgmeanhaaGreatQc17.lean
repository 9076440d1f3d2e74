/- Several texts in one, each with its own head. -/
import Derived.Test.YtoladolgmeanhaaGreatQc16
import Derived.Test.YtoladolgmeanhaaGreatQc11
import Derived.Test.YtoladolgmeanhaaGreatQc5
/- inflate, plainly: each step has one answer; what the example tells. -/
namespace Go.Proofs.YtoladolgmeanhaaGreat

theorem InfRp.view {D l : List Nat} {lim a x : Nat} {o : List Nat} {r : InfSt} (h : InfRp D l lim a x o r) :
    (285 < x ∧ r = .no 80) ∨ (x ≤ 285 ∧ 8 * l.length < a + lnBits x ∧ r = .no 50) ∨ (x ≤ 285 ∧ a + lnBits x ≤ 8 * l.length ∧ ∃ y e t, Sy D l (a + lnBits x) y e t ∧
      ((e ≠ 0 ∧ r = .no e) ∨ (e = 0 ∧ 29 < y ∧ r = .no 80) ∨ (e = 0 ∧ y ≤ 29 ∧ 8 * l.length < a + lnBits x + t + dsBits y ∧ r = .no 50) ∨
       (e = 0 ∧ y ≤ 29 ∧ a + lnBits x + t + dsBits y ≤ 8 * l.length ∧
        ((o.length < dsBase y + nb l (a + lnBits x + t) (dsBits y) ∧ r = .no 70) ∨
         (dsBase y + nb l (a + lnBits x + t) (dsBits y) ≤ o.length ∧ lim < o.length + (lnBase x + nb l a (lnBits x)) ∧ r = .no 81) ∨
         (dsBase y + nb l (a + lnBits x + t) (dsBits y) ≤ o.length ∧ o.length + (lnBase x + nb l a (lnBits x)) ≤ lim ∧
          r = .go (a + lnBits x + t + dsBits y) (ext (dsBase y + nb l (a + lnBits x + t) (dsBits y)) (lnBase x + nb l a (lnBits x)) o)))))) := by
  cases h with
  | far h => exact .inl ⟨h, rfl⟩
  | few h h1 => exact .inr (.inl ⟨h, h1, rfl⟩)
  | bad h h1 y t e h2 h3 => exact .inr (.inr ⟨h, h1, y, e, t, h2, .inl ⟨h3, rfl⟩⟩)
  | wide h h1 y t h2 h3 => exact .inr (.inr ⟨h, h1, y, 0, t, h2, .inr (.inl ⟨rfl, h3, rfl⟩)⟩)
  | few2 h h1 y t h2 h3 h4 => exact .inr (.inr ⟨h, h1, y, 0, t, h2, .inr (.inr (.inl ⟨rfl, h3, h4, rfl⟩))⟩)
  | dist h h1 y t h2 h3 h4 h5 => exact .inr (.inr ⟨h, h1, y, 0, t, h2, .inr (.inr (.inr ⟨rfl, h3, h4, .inl ⟨h5, rfl⟩⟩))⟩)
  | over h h1 y t h2 h3 h4 h5 h6 => exact .inr (.inr ⟨h, h1, y, 0, t, h2, .inr (.inr (.inr ⟨rfl, h3, h4, .inr (.inl ⟨h5, h6, rfl⟩)⟩))⟩)
  | done h h1 y t h2 h3 h4 h5 h6 => exact .inr (.inr ⟨h, h1, y, 0, t, h2, .inr (.inr (.inr ⟨rfl, h3, h4, .inr (.inr ⟨h5, h6, rfl⟩)⟩))⟩)
theorem InfRp.det {D l : List Nat} {lim a x : Nat} {o : List Nat} {r r' : InfSt} (h : InfRp D l lim a x o r) (h' : InfRp D l lim a x o r') : r = r' := by
  rcases h.view with ⟨p1, rfl⟩ | ⟨p1, p2, rfl⟩ | ⟨p1, p2, y, e, t, p3, p⟩ <;> rcases h'.view with ⟨q1, rfl⟩ | ⟨q1, q2, rfl⟩ | ⟨q1, q2, y', e', t', q3, q⟩ <;> first | rfl | (exfalso; omega) | skip
  obtain ⟨rfl, rfl, rfl⟩ := p3.only q3
  rcases p with ⟨p4, rfl⟩ | ⟨p4, p5, rfl⟩ | ⟨p4, p5, p6, rfl⟩ | ⟨p4, p5, p6, p7⟩ <;> rcases q with ⟨q4, rfl⟩ | ⟨q4, q5, rfl⟩ | ⟨q4, q5, q6, rfl⟩ | ⟨q4, q5, q6, q7⟩ <;> first | rfl | (exfalso; omega) | skip
  rcases p7 with ⟨p7, rfl⟩ | ⟨p7, p8, rfl⟩ | ⟨p7, p8, rfl⟩ <;> rcases q7 with ⟨q7, rfl⟩ | ⟨q7, q8, rfl⟩ | ⟨q7, q8, rfl⟩ <;> first | rfl | (exfalso; omega)
theorem InfTk.view {A D l : List Nat} {lim a : Nat} {o : List Nat} {r : InfSt} (h : InfTk A D l lim a o r) : ∃ x e s, Sy A l a x e s ∧
    ((e ≠ 0 ∧ r = .no e) ∨ (e = 0 ∧ x = 256 ∧ r = .fin (a + s)) ∨ (e = 0 ∧ x < 256 ∧ o.length < lim ∧ r = .go (a + s) (o ++ [x])) ∨ (e = 0 ∧ x < 256 ∧ lim ≤ o.length ∧ r = .no 81) ∨ (e = 0 ∧ 256 < x ∧ InfRp D l lim (a + s) x o r)) := by
  cases h with
  | bad x s e h h1 => exact ⟨x, e, s, h, .inl ⟨h1, rfl⟩⟩
  | fin s h => exact ⟨256, 0, s, h, .inr (.inl ⟨rfl, rfl, rfl⟩)⟩
  | byte x s h h1 h2 => exact ⟨x, 0, s, h, .inr (.inr (.inl ⟨rfl, h1, h2, rfl⟩))⟩
  | full x s h h1 h2 => exact ⟨x, 0, s, h, .inr (.inr (.inr (.inl ⟨rfl, h1, h2, rfl⟩)))⟩
  | rep x s r h h1 h2 => exact ⟨x, 0, s, h, .inr (.inr (.inr (.inr ⟨rfl, h1, h2⟩)))⟩
theorem InfTk.det {A D l : List Nat} {lim a : Nat} {o : List Nat} {r r' : InfSt} (h : InfTk A D l lim a o r) (h' : InfTk A D l lim a o r') : r = r' := by
  obtain ⟨x, e, s, p, p'⟩ := h.view
  obtain ⟨x', e', s', q, q'⟩ := h'.view
  obtain ⟨rfl, rfl, rfl⟩ := p.only q
  rcases p' with ⟨p1, rfl⟩ | ⟨p1, p2, rfl⟩ | ⟨p1, p2, p3, rfl⟩ | ⟨p1, p2, p3, rfl⟩ | ⟨p1, p2, p3⟩ <;> rcases q' with ⟨q1, rfl⟩ | ⟨q1, q2, rfl⟩ | ⟨q1, q2, q3, rfl⟩ | ⟨q1, q2, q3, rfl⟩ | ⟨q1, q2, q3⟩ <;> first | rfl | (exfalso; omega) | exact p3.det q3
theorem InfToks.det {A D l : List Nat} {lim a : Nat} {o : List Nat} {r : InfSt} (h : InfToks A D l lim a o r) : ∀ r', InfToks A D l lim a o r' → r = r' := by
  induction h with
  | fin a a' o h =>
    intro r' h'
    cases h' with
    | fin _ a2 _ h2 => have := h.det h2; injection this with this; rw [this]
    | no _ _ e h2 => have := h.det h2; cases this
    | more _ a2 _ o2 _ h2 h3 => have := h.det h2; cases this
  | no a o e h =>
    intro r' h'
    cases h' with
    | fin _ a2 _ h2 => have := h.det h2; cases this
    | no _ _ e h2 => have := h.det h2; injection this with this; rw [this]
    | more _ a2 _ o2 _ h2 h3 => have := h.det h2; cases this
  | more a a' o o' r h h1 ih =>
    intro r' h'
    cases h' with
    | fin _ a2 _ h2 => have := h.det h2; cases this
    | no _ _ e h2 => have := h.det h2; cases this
    | more _ a2 _ o2 _ h2 h3 =>
      have := h.det h2
      injection this with e1 e2
      subst e1; subst e2
      exact ih r' h3
theorem InfSd.det {l : List Nat} {lim a : Nat} {o : List Nat} {r r' : InfSt} (h : InfSd l lim a o r) (h' : InfSd l lim a o r') : r = r' := by
  cases h <;> cases h' <;> first | rfl | (exfalso; omega)
theorem SvC.only {x k c v k' c' v' : Nat} {ls : List Nat} (h : SvC x k c v ls) (h' : SvC x k' c' v' ls) : k = k' ∧ c = c' ∧ v = v' := by
  unfold SvC at h h'
  omega
theorem InfSv.det {C l : List Nat} {n a : Nat} {ls : List Nat} {r r' : InfSt} (h : InfSv C l n a ls r) (h' : InfSv C l n a ls r') : r = r' := by
  cases h with
  | bad x s e h h1 =>
    cases h' with
    | bad _ _ _ k k1 => obtain ⟨rfl, rfl, rfl⟩ := h.only k; rfl
    | first _ k k1 => obtain ⟨rfl, rfl, rfl⟩ := h.only k; exact absurd rfl h1
    | few _ _ _ _ _ k => obtain ⟨rfl, rfl, rfl⟩ := h.only k; exact absurd rfl h1
    | many _ _ _ _ _ k => obtain ⟨rfl, rfl, rfl⟩ := h.only k; exact absurd rfl h1
    | go _ _ _ _ _ k => obtain ⟨rfl, rfl, rfl⟩ := h.only k; exact absurd rfl h1
  | first s h h1 =>
    cases h' with
    | bad _ _ _ k k1 => obtain ⟨rfl, rfl, rfl⟩ := h.only k; exact absurd rfl k1
    | first _ k k1 => rfl
    | few _ _ _ _ _ k k1 => obtain ⟨rfl, -, rfl⟩ := h.only k; exfalso; omega
    | many _ _ _ _ _ k k1 => obtain ⟨rfl, -, rfl⟩ := h.only k; exfalso; omega
    | go _ _ _ _ _ k k1 => obtain ⟨rfl, -, rfl⟩ := h.only k; exfalso; omega
  | few x s k c v h h1 h2 =>
    cases h' with
    | bad _ _ _ k k1 => obtain ⟨rfl, rfl, rfl⟩ := h.only k; exact absurd rfl k1
    | first _ k k1 => obtain ⟨rfl, -, rfl⟩ := h.only k; exfalso; omega
    | few _ _ _ _ _ k k1 => rfl
    | many _ _ _ _ _ k k1 k2 => obtain ⟨rfl, -, rfl⟩ := h.only k; obtain ⟨rfl, rfl, rfl⟩ := SvC.only h1 k1; exfalso; omega
    | go _ _ _ _ _ k k1 k2 => obtain ⟨rfl, -, rfl⟩ := h.only k; obtain ⟨rfl, rfl, rfl⟩ := SvC.only h1 k1; exfalso; omega
  | many x s k c v h h1 h2 h3 =>
    cases h' with
    | bad _ _ _ k k1 => obtain ⟨rfl, rfl, rfl⟩ := h.only k; exact absurd rfl k1
    | first _ k k1 => rfl
    | few _ _ _ _ _ k k1 k2 => obtain ⟨rfl, -, rfl⟩ := h.only k; obtain ⟨rfl, rfl, rfl⟩ := SvC.only h1 k1; exfalso; omega
    | many _ _ _ _ _ k k1 k2 => rfl
    | go _ _ _ _ _ k k1 k2 k3 => obtain ⟨rfl, -, rfl⟩ := h.only k; obtain ⟨rfl, rfl, rfl⟩ := SvC.only h1 k1; exfalso; omega
  | go x s k c v h h1 h2 h3 =>
    cases h' with
    | bad _ _ _ k k1 => obtain ⟨rfl, rfl, rfl⟩ := h.only k; exact absurd rfl k1
    | first _ k k1 => obtain ⟨rfl, -, rfl⟩ := h.only k; exfalso; omega
    | few _ _ _ _ _ k k1 k2 => obtain ⟨rfl, -, rfl⟩ := h.only k; obtain ⟨rfl, rfl, rfl⟩ := SvC.only h1 k1; exfalso; omega
    | many _ _ _ _ _ k k1 k2 k3 => obtain ⟨rfl, -, rfl⟩ := h.only k; obtain ⟨rfl, rfl, rfl⟩ := SvC.only h1 k1; exfalso; omega
    | go _ _ _ _ _ k k1 k2 k3 => obtain ⟨rfl, -, rfl⟩ := h.only k; obtain ⟨rfl, rfl, rfl⟩ := SvC.only h1 k1; rfl
theorem InfLs.det {C l : List Nat} {n a : Nat} {ls : List Nat} {r : InfSt} (h : InfLs C l n a ls r) : ∀ r', InfLs C l n a ls r' → r = r' := by
  induction h with
  | fin a ls h =>
    intro r' h'
    cases h' with
    | fin => rfl
    | no => exfalso; omega
    | more => exfalso; omega
  | no a ls e h0 h =>
    intro r' h'
    cases h' with
    | fin => exfalso; omega
    | no _ _ e' _ h2 => have := h.det h2; injection this with this; rw [this]
    | more _ a2 _ o2 _ _ h2 h3 => have := h.det h2; cases this
  | more a a' ls ls' r h0 h h1 ih =>
    intro r' h'
    cases h' with
    | fin => exfalso; omega
    | no _ _ e' _ h2 => have := h.det h2; cases this
    | more _ a2 _ o2 _ _ h2 h3 =>
      have := h.det h2
      injection this with e1 e2
      subst e1; subst e2
      exact ih r' h3
theorem InfDy.det {l : List Nat} {a n n' : Nat} {r r' : InfSt} (h : InfDy l a n r) (h' : InfDy l a n' r') : n = n' ∧ r = r' := by
  cases h with
  | few h => cases h' <;> first | exact ⟨rfl, rfl⟩ | (exfalso; omega)
  | many h h1 => cases h' <;> first | exact ⟨rfl, rfl⟩ | (exfalso; omega)
  | few2 h h1 h2 => cases h' <;> first | exact ⟨rfl, rfl⟩ | (exfalso; omega)
  | code h h1 h2 h3 => cases h' <;> first | exact ⟨rfl, rfl⟩ | (exfalso; omega) | (exact absurd (by assumption) h3)
  | lens h h1 h2 h3 e h4 =>
    cases h' with
    | few => exfalso; omega
    | many => exfalso; omega
    | few2 => exfalso; omega
    | code _ _ _ k => exact absurd h3 k
    | lens _ _ _ _ e' k4 => have := h4.det _ k4; injection this with this; rw [this]; exact ⟨rfl, rfl⟩
    | last _ _ _ _ a' ls k4 => have := h4.det _ k4; cases this
    | done _ _ _ _ a' ls k4 => have := h4.det _ k4; cases this
  | last h h1 h2 h3 a' ls h4 e h5 =>
    cases h' with
    | few => exfalso; omega
    | many => exfalso; omega
    | few2 => exfalso; omega
    | code _ _ _ k => exact absurd h3 k
    | lens _ _ _ _ e' k4 => have := h4.det _ k4; cases this
    | last _ _ _ _ a2 ls2 k4 e2 k5 =>
      have := h4.det _ k4
      injection this with e1 e3
      subst e1; subst e3
      rcases h5 with ⟨p, rfl⟩ | ⟨p, p2, rfl⟩ | ⟨p, p2, p3, rfl⟩ <;> rcases k5 with ⟨q, rfl⟩ | ⟨q, q2, rfl⟩ | ⟨q, q2, q3, rfl⟩ <;> first | exact ⟨rfl, rfl⟩ | (exfalso; omega)
    | done _ _ _ _ a2 ls2 k4 k5 =>
      have := h4.det _ k4
      injection this with e1 e3
      subst e1; subst e3
      exfalso; omega
  | done h h1 h2 h3 a' ls h4 h5 =>
    cases h' with
    | few => exfalso; omega
    | many => exfalso; omega
    | few2 => exfalso; omega
    | code _ _ _ k => exact absurd h3 k
    | lens _ _ _ _ e' k4 => have := h4.det _ k4; cases this
    | last _ _ _ _ a2 ls2 k4 e2 k5 =>
      have := h4.det _ k4
      injection this with e1 e3
      subst e1; subst e3
      exfalso; omega
    | done _ _ _ _ a2 ls2 k4 k5 =>
      have := h4.det _ k4
      injection this with e1 e3
      subst e1; subst e3
      exact ⟨rfl, rfl⟩
theorem InfBk.det {l : List Nat} {lim a : Nat} {o : List Nat} {r r' : InfSt} (h : InfBk l lim a o r) (h' : InfBk l lim a o r') : r = r' := by
  cases h with
  | few h => cases h' <;> first | rfl | (exfalso; omega)
  | stored h h1 r h2 =>
    cases h' with
    | stored _ _ _ k2 => exact h2.det k2
    | _ => exfalso; omega
  | fixed h h1 r h2 =>
    cases h' with
    | fixed _ _ _ k2 => exact h2.det _ k2
    | _ => exfalso; omega
  | bad h h1 e h2 =>
    cases h' with
    | bad _ _ _ k2 => have := (h2.det k2).2; exact this
    | dyn _ _ n a' ls k2 => have := (h2.det k2).2; cases this
    | _ => exfalso; omega
  | dyn h h1 n a' ls h2 r h3 =>
    cases h' with
    | bad _ _ _ k2 => have := (h2.det k2).2; cases this
    | dyn _ _ n2 a2 ls2 k2 _ k3 =>
      obtain ⟨e0, e⟩ := h2.det k2
      injection e with e1 e2
      subst e0; subst e1; subst e2
      exact h3.det _ k3
    | _ => exfalso; omega
  | unknown h h1 => cases h' <;> first | rfl | (exfalso; omega)
theorem InfBl.det {l : List Nat} {lim a : Nat} {o : List Nat} {r : InfSt} (h : InfBl l lim a o r) : ∀ r', InfBl l lim a o r' → r = r' := by
  induction h with
  | few a o h => intro r' h'; cases h' <;> first | rfl | (exfalso; omega)
  | no a o h e h1 =>
    intro r' h'
    cases h' with
    | few => exfalso; omega
    | no _ _ _ e' k => have := h1.det k; exact this
    | last _ _ _ _ a' o' k => have := h1.det k; cases this
    | more _ _ _ _ a' o' k => have := h1.det k; cases this
  | last a o h h1 a' o' h2 =>
    intro r' h'
    cases h' with
    | few => exfalso; omega
    | no _ _ _ e' k => have := h2.det k; cases this
    | last _ _ _ _ a2 o2 k => exact h2.det k
    | more _ _ _ k1 => exact absurd h1 k1
  | more a o h h1 a' o' h2 r h3 ih =>
    intro r' h'
    cases h' with
    | few => exfalso; omega
    | no _ _ _ e' k => have := h2.det k; cases this
    | last _ _ _ k1 => exact absurd k1 h1
    | more _ _ _ _ a2 o2 k _ k3 =>
      have := h2.det k
      injection this with e1 e2
      subst e1; subst e2
      exact ih r' k3
theorem Infl.det {l : List Nat} {limit : Int} {o o' : List Nat} {k k' : Nat} {e e' : Int} (h : Infl l limit o k e) (h' : Infl l limit o' k' e') : o = o' ∧ k = k' ∧ e = e' := by
  cases h with
  | arg h => cases h' <;> first | exact ⟨rfl, rfl, rfl⟩ | (exfalso; omega)
  | go lim a o h h1 h2 =>
    cases h' with
    | arg => exfalso; omega
    | go lim' a' o' k k1 k2 =>
      obtain rfl : lim = lim' := by omega
      have := h2.det _ k2
      injection this with e1 e2
      subst e1; subst e2
      exact ⟨rfl, rfl, rfl⟩
    | no lim' er k k1 k2 =>
      obtain rfl : lim = lim' := by omega
      have := h2.det _ k2
      cases this
  | no lim er h h1 h2 =>
    cases h' with
    | arg => exfalso; omega
    | go lim' a' o' k k1 k2 =>
      obtain rfl : lim = lim' := by omega
      have := h2.det _ k2
      cases this
    | no lim' er k k1 k2 =>
      obtain rfl : lim = lim' := by omega
      have := h2.det _ k2
      injection this with e1
      subst e1
      exact ⟨rfl, rfl, rfl⟩
end Go.Proofs.YtoladolgmeanhaaGreat

/- inflate, plainly: what a stream tells elsewhere: further on in other bytes, behind other bytes that came, under a greater limit. -/
namespace Go.Proofs.YtoladolgmeanhaaGreat


end Go.Proofs.YtoladolgmeanhaaGreat

/- inflate, plainly: a stored block ahead of a stream; bytes behind it; its end. -/
namespace Go.Proofs.YtoladolgmeanhaaGreat

theorem InfRp.in' {D l : List Nat} {lim a x : Nat} {o : List Nat} {r : InfSt} (h : InfRp D l lim a x o r) : ∀ a' o', r = .go a' o' → a' ≤ 8 * l.length := by
  intro a' o' e
  cases h <;> cases e
  assumption
theorem InfTk.in' {A D l : List Nat} {lim a : Nat} {o : List Nat} {r : InfSt} (h : InfTk A D l lim a o r) : (∀ a' o', r = .go a' o' → a' ≤ 8 * l.length) ∧ ∀ a', r = .fin a' → a' ≤ 8 * l.length := by
  refine ⟨fun a' o' e => ?_, fun a' e => ?_⟩
  · cases h with
    | bad => cases e
    | fin => cases e
    | byte x s h => cases e; exact h.in'
    | full => cases e
    | rep x s r h h1 h2 => exact h2.in' a' o' e
  · cases h with
    | bad => cases e
    | fin s h => cases e; exact h.in'
    | byte => cases e
    | full => cases e
    | rep x s r h h1 h2 => subst e; cases h2
theorem InfToks.in' {A D l : List Nat} {lim a : Nat} {o : List Nat} {r : InfSt} (h : InfToks A D l lim a o r) : ∀ a' o', r = .go a' o' → a' ≤ 8 * l.length := by
  induction h with
  | fin a a' o h => intro x y e; cases e; exact h.in'.2 _ rfl
  | no => intro x y e; cases e
  | more a a' o o' r h h1 ih => exact ih
theorem InfBk.in' {l : List Nat} {lim a : Nat} {o : List Nat} {r : InfSt} (h : InfBk l lim a o r) : ∀ a' o', r = .go a' o' → a' ≤ 8 * l.length ∧ a + 2 ≤ a' := by
  intro a' o' e
  cases h with
  | few => cases e
  | stored h h1 r h2 =>
    subst e
    cases h2
    refine ⟨by assumption, ?_⟩
    unfold alN; omega
  | fixed h h1 r h2 => exact ⟨h2.in' _ _ e, h2.up _ _ e⟩
  | bad => cases e
  | dyn h h1 n a1 ls h2 r h3 => exact ⟨h3.in' _ _ e, by have := h3.up _ _ e; have := h2.up; omega⟩
  | unknown => cases e
theorem InfBl.in' {l : List Nat} {lim a : Nat} {o : List Nat} {r : InfSt} (h : InfBl l lim a o r) : ∀ a' o', r = .go a' o' → a' ≤ 8 * l.length ∧ a + 3 ≤ a' := by
  induction h with
  | few => intro a' o' e; cases e
  | no => intro a' o' e; cases e
  | last a o h h1 a1 o1 h2 => intro a' o' e; injection e with e1 e2; have := h2.in' _ _ rfl; omega
  | more a o h h1 a1 o1 h2 r h3 ih => intro a' o' e; have := ih a' o' e; have := h2.in' _ _ rfl; omega
theorem InfRp.fits {D l : List Nat} {lim a x : Nat} {o : List Nat} {r : InfSt} (h : InfRp D l lim a x o r) : ∀ a' o', r = .go a' o' → o'.length ≤ lim := by
  intro a' o' e
  cases h <;> cases e
  rw [ext_len]; assumption
theorem InfToks.fits {A D l : List Nat} {lim a : Nat} {o : List Nat} {r : InfSt} (h : InfToks A D l lim a o r) : o.length ≤ lim → ∀ a' o', r = .go a' o' → o'.length ≤ lim := by
  induction h with
  | fin a a' o h => intro h0 x y e; cases e; exact h0
  | no => intro h0 x y e; cases e
  | more a a' o o' r h h1 ih =>
    intro h0 x y e
    refine ih ?_ x y e
    cases h with
    | byte x s h h1 h2 => simp; omega
    | rep x s r h h1 h2 => exact h2.fits _ _ rfl
theorem InfBk.fits {l : List Nat} {lim a : Nat} {o : List Nat} {r : InfSt} (h : InfBk l lim a o r) (h0 : o.length ≤ lim) : ∀ a' o', r = .go a' o' → o'.length ≤ lim := by
  intro a' o' e
  cases h with
  | few => cases e
  | stored h h1 r h2 =>
    subst e
    cases h2
    rw [List.length_append, bys_len]; assumption
  | fixed h h1 r h2 => exact h2.fits h0 _ _ e
  | bad => cases e
  | dyn h h1 n a1 ls h2 r h3 => exact h3.fits h0 _ _ e
  | unknown => cases e
theorem InfBl.fits {l : List Nat} {lim a : Nat} {o : List Nat} {r : InfSt} (h : InfBl l lim a o r) : o.length ≤ lim → ∀ a' o', r = .go a' o' → o'.length ≤ lim := by
  induction h with
  | few => intro h0 a' o' e; cases e
  | no => intro h0 a' o' e; cases e
  | last a o h h1 a1 o1 h2 => intro h0 a' o' e; injection e with e1 e2; subst e2; exact h2.fits h0 _ _ rfl
  | more a o h h1 a1 o1 h2 r h3 ih => intro h0 a' o' e; exact ih (h2.fits h0 _ _ rfl) a' o' e
theorem Infl.ok {l : List Nat} {limit : Int} {o : List Nat} {k : Nat} (h : Infl l limit o k 0) : ∃ (lim a : Nat), limit = (lim : Int) ∧ lim ≤ 524288 ∧ InfBl l lim 0 [] (.go a o) ∧ k = alN a / 8 ∧ a ≤ 8 * l.length ∧ 3 ≤ a ∧ o.length ≤ lim := by
  cases h with
  | go lim a _ h h1 h2 => exact ⟨lim, a, h, h1, h2, rfl, (h2.in' _ _ rfl).1, by have := (h2.in' _ _ rfl).2; omega, h2.fits (Nat.zero_le _) _ _ rfl⟩
  | no lim _ h h1 h2 => exact absurd rfl (h2.ne _ rfl)
def hdr (k : Nat) : List Nat := [0, k % 256, k / 256, 255 - k % 256, 255 - k / 256]
end Go.Proofs.YtoladolgmeanhaaGreat

/- inflate, plainly: a greater limit; a stream that is cut. -/
namespace Go.Proofs.YtoladolgmeanhaaGreat


end Go.Proofs.YtoladolgmeanhaaGreat

/- inflate, plainly: the chapter's examples, and each error. -/
namespace Go.Proofs.YtoladolgmeanhaaGreat

end Go.Proofs.YtoladolgmeanhaaGreat

/- inflate, plainly: streams that are laid with one thing wrong in their own codes. -/
namespace Go.Proofs.YtoladolgmeanhaaGreat

def w6 : List Nat := [5, 0, 146, 0]
def w7 : List Nat := [5, 0, 2, 0]
def w8 : List Nat := [5, 0, 128, 192, 223, 31]
def w9 : List Nat := [5, 0, 128, 192, 95, 27]
def w10 : List Nat := [5, 0, 128, 32]
end Go.Proofs.YtoladolgmeanhaaGreat

/- Codes as numbers one behind the other (plain; nothing of the document's own answers): no code begins with another one, and lengths that make a code of all rows leave no gap. -/
namespace Go.Proofs.YtoladolgmeanhaaGreat

theorem trn_low (n x : Nat) : trn n 0 x < 2 ^ n := by
  have := trn_lt n 0 x
  rwa [Nat.zero_add, Nat.one_mul] at this
end Go.Proofs.YtoladolgmeanhaaGreat

/- inflate, plainly: numbers that are put one behind the other are read where they stand; symbols of a code likewise; tokens that are laid. -/
namespace Go.Proofs.YtoladolgmeanhaaGreat

abbrev Pt := List (Nat × Nat)
def szP : Pt → Nat
  | [] => 0
  | p :: r => p.2 + szP r
def nmP : Pt → Nat
  | [] => 0
  | p :: r => p.1 + 2 ^ p.2 * nmP r
theorem szP_app : ∀ a b : Pt, szP (a ++ b) = szP a + szP b
  | [], b => by simp [szP]
  | p :: a, b => by rw [List.cons_append, szP, szP, szP_app a b]; omega
theorem nmP_app : ∀ a b : Pt, nmP (a ++ b) = nmP a + 2 ^ szP a * nmP b
  | [], b => by simp [nmP, szP]
  | p :: a, b => by
    rw [List.cons_append, nmP, nmP, nmP_app a b, szP, Nat.pow_add, Nat.mul_add, Nat.add_assoc, Nat.mul_assoc]
theorem nmP_snoc (P : Pt) (v k : Nat) : nmP (P ++ [(v, k)]) = nmP P + v * 2 ^ szP P ∧ szP (P ++ [(v, k)]) = szP P + k := by
  refine ⟨?_, by rw [szP_app]; simp [szP]⟩
  rw [nmP_app, nmP, nmP, Nat.mul_zero, Nat.add_zero, Nat.mul_comm]
def bytP (P : Pt) : List Nat := byts (nmP P) ((szP P + 7) / 8)
theorem bytP_len (P : Pt) : (bytP P).length = (szP P + 7) / 8 := byts_len _ _
def lnF (n : Nat) : Nat → Nat
  | 0 => 0
  | k + 1 => if lnBase (257 + k) ≤ n ∧ (257 + k ≠ 285 ∨ n = 258) then 257 + k else lnF n k
def lnSym (n : Nat) : Nat := lnF n 29
def dsF (d : Nat) : Nat → Nat
  | 0 => 0
  | k + 1 => if dsBase k ≤ d then k else dsF d k
def dsSym (d : Nat) : Nat := dsF d 30
theorem lnSym_ok : ∀ n, n < 259 → 3 ≤ n → 257 ≤ lnSym n ∧ lnSym n ≤ 285 ∧ lnBase (lnSym n) ≤ n ∧ n - lnBase (lnSym n) < 2 ^ lnBits (lnSym n) := by decide +kernel
theorem ds_step : ∀ y, y < 30 → dsBase (y + 1) = dsBase y + 2 ^ dsBits y := by decide +kernel
theorem dsF_ok (d : Nat) : ∀ k, k ≤ 30 → d < dsBase k → 1 ≤ d → dsF d k < 30 ∧ dsBase (dsF d k) ≤ d ∧ d - dsBase (dsF d k) < 2 ^ dsBits (dsF d k)
  | 0, _, h, h1 => by simp [dsBase, stpBase] at h; omega
  | k + 1, hk, h, h1 => by
    rw [dsF]
    by_cases hd : dsBase k ≤ d
    · rw [if_pos hd]
      have := ds_step k (by omega)
      exact ⟨by omega, hd, by omega⟩
    · rw [if_neg hd]
      exact dsF_ok d k (by omega) (by omega) h1
theorem dsSym_ok {d : Nat} (h1 : 1 ≤ d) (h : d ≤ 32768) : dsSym d ≤ 29 ∧ dsBase (dsSym d) ≤ d ∧ d - dsBase (dsSym d) < 2 ^ dsBits (dsSym d) := by
  have e : dsBase 30 = 32769 := by decide
  obtain ⟨a, b⟩ := dsF_ok d 30 (Nat.le_refl _) (by omega) h1
  exact ⟨Nat.le_of_lt_succ a, b⟩
structure Tn where
  b : Nat
  n : Nat
  d : Nat
def Tn.put (A D : List Nat) (t : Tn) : Pt :=
  if t.n = 0 then [(cd (lq A) A.length t.b, lq A t.b)]
  else [(cd (lq A) A.length (lnSym t.n), lq A (lnSym t.n)), (t.n - lnBase (lnSym t.n), lnBits (lnSym t.n)), (cd (lq D) D.length (dsSym t.d), lq D (dsSym t.d)), (t.d - dsBase (dsSym t.d), dsBits (dsSym t.d))]
def Tn.tell (t : Tn) (o : List Nat) : List Nat := if t.n = 0 then o ++ [t.b] else ext t.d t.n o
def Tn.ok (A D : List Nat) (t : Tn) (o : List Nat) : Prop :=
  (t.n = 0 → t.b < 256 ∧ t.b < A.length ∧ 0 < lq A t.b) ∧
  (t.n ≠ 0 → 3 ≤ t.n ∧ t.n ≤ 258 ∧ 1 ≤ t.d ∧ t.d ≤ 32768 ∧ t.d ≤ o.length ∧ lnSym t.n < A.length ∧ 0 < lq A (lnSym t.n) ∧ dsSym t.d < D.length ∧ 0 < lq D (dsSym t.d))
def laidT (A D : List Nat) : List Tn → Pt
  | [] => []
  | t :: r => t.put A D ++ laidT A D r
def toldT : List Tn → List Nat → List Nat
  | [], o => o
  | t :: r, o => toldT r (t.tell o)
def mayT (A D : List Nat) : List Tn → List Nat → Prop
  | [], _ => True
  | t :: r, o => t.ok A D o ∧ mayT A D r (t.tell o)
end Go.Proofs.YtoladolgmeanhaaGreat

/- inflate: a writer of laid numbers beside other memory that it leaves alone. -/
namespace Go.Proofs.YtoladolgmeanhaaGreat
open Go.RowKit Go.Maps

def WrY (G : Nat → Prop) (base B : Nat) (P : Pt) (W w : World) : Prop :=
  ∃ sv, Wr w base B sv (nmP P) (szP P) ∧ base ≤ w.heap.size ∧ szP P ≤ 8388608 ∧ Turns (fun b => ¬ G b) W w ∧ ∀ b, G b → b ≠ B ∧ sv.ownBlock ≠ some b ∧ b < W.heap.size
theorem WrY.turns {G : Nat → Prop} {base B : Nat} {P : Pt} {W w : World} (h : WrY G base B P W w) : Turns (fun b => ¬ G b) W w := by obtain ⟨_, _, _, _, h, _⟩ := h; exact h
theorem WrY.max {G : Nat → Prop} {base B : Nat} {P : Pt} {W w : World} (h : WrY G base B P W w) : szP P ≤ 8388608 := by obtain ⟨_, _, _, h, _⟩ := h; exact h
theorem WrY.of {G : Nat → Prop} {base B : Nat} {Q : Pt} {W w w' : World} {sv : Value} (h2 : base ≤ w.heap.size) (h4 : Turns (fun b => ¬ G b) W w) (h5 : ∀ b, G b → b ≠ B ∧ sv.ownBlock ≠ some b ∧ b < W.heap.size) (hQ : szP Q ≤ 8388608)
    (hto : WrTo base B sv (nmP Q) (szP Q) w w') : WrY G base B Q W w' := by
  obtain ⟨sv', k1, k2, k3⟩ := hto
  refine ⟨sv', k1, Nat.le_trans h2 k2.size, hQ, h4.trans (k2.mono fun i _ hi hg => ?_), fun b hb => ?_⟩
  · obtain ⟨a1, a2, -⟩ := h5 i hg
    rcases hi with hi | hi
    · exact a1 hi
    · exact a2 hi
  · obtain ⟨a1, a2, a3⟩ := h5 b hb
    refine ⟨a1, fun hs => ?_, a3⟩
    rcases k3 b hs with hs | hs
    · exact a2 hs
    · have := h4.size; omega
theorem putY {G : Nat → Prop} {base B v k : Nat} {P : Pt} {W w : World} (h : WrY G base B P W w) (hv : v < 2 ^ k) (hk : k ≤ 24) (hmax : szP P + k ≤ 8388608) :
    Calls Tryz.prog 101 #[.pointer (some ⟨B, 0, none⟩), .int .u32 (v : Int), .int .i64 (k : Int)] w fun e w' => e = .returned (.int .i64 0) ∧ WrY G base B (P ++ [(v, k)]) W w' := by
  obtain ⟨e1, e2⟩ := nmP_snoc P v k
  obtain ⟨sv, h1, h2, -, h4, h5⟩ := h
  exact (put_ok base B (nmP P) (szP P) v k sv w h1 hv hk hmax h2).mono fun e w' ⟨he, hto⟩ => ⟨he, WrY.of h2 h4 h5 (by rw [e2]; exact hmax) (by rw [e1, e2]; exact hto)⟩
theorem alignY {G : Nat → Prop} {base B : Nat} {P : Pt} {W w : World} (h : WrY G base B P W w) (hmax : szP P + 8 ≤ 8388608) :
    Calls Tryz.prog 107 #[.pointer (some ⟨B, 0, none⟩)] w fun e w' => e = .returned (.int .i64 0) ∧ WrY G base B (P ++ [(0, (8 - szP P % 8) % 8)]) W w' := by
  obtain ⟨e1, e2⟩ := nmP_snoc P 0 ((8 - szP P % 8) % 8)
  rw [Nat.zero_mul, Nat.add_zero] at e1
  obtain ⟨sv, h1, h2, h3, h4, h5⟩ := h
  exact (walign_any base B (nmP P) (szP P) sv w h1 h3 h2).mono fun e w' ⟨he, hto⟩ => ⟨he, WrY.of h2 h4 h5 (by rw [e2]; omega) (by rw [e1, e2]; exact hto)⟩
theorem WrY.below {G : Nat → Prop} {base B : Nat} {P : Pt} {W w w' : World} (h : WrY G base B P W w) (hb : Below w.heap.size w w') : WrY G base B P W w' := by
  obtain ⟨sv, h1, h2, h3, h4, h5⟩ := h
  exact ⟨sv, h1.below hb, Nat.le_trans h2 hb.size, h3, h4.trans (Turns.of_below' hb), h5⟩
theorem WrY.more {G : Nat → Prop} {base B : Nat} {P : Pt} {W w w' : World} (h : WrY G base B P W w) (hb : Below w.heap.size w w') : WrY (fun b => G b ∨ (w.heap.size ≤ b ∧ b < w'.heap.size)) base B P w' w' := by
  obtain ⟨sv, h1, h2, h3, h4, h5⟩ := h
  refine ⟨sv, h1.below hb, Nat.le_trans h2 hb.size, h3, Turns.refl _ _, fun b hb' => ?_⟩
  have hs := h1.size
  rcases hb' with hg | ⟨g1, g2⟩
  · obtain ⟨a1, a2, a3⟩ := h5 b hg
    exact ⟨a1, a2, by have := h4.size; have := hb.size; omega⟩
  · refine ⟨by omega, fun e => ?_, g2⟩
    have := (h1.own.lt b e).2
    omega
theorem WrY.less {G G' : Nat → Prop} {base B : Nat} {P : Pt} {W W' w : World} (h : WrY G' base B P W' w) (hG : ∀ b, G b → G' b ∧ b < W.heap.size) (ht : Turns (fun b => ¬ G b) W W') : WrY G base B P W w := by
  obtain ⟨sv, h1, h2, h3, h4, h5⟩ := h
  refine ⟨sv, h1, h2, h3, ht.trans (h4.mono fun i _ hi hg => hi (hG i hg).1), fun b hb => ?_⟩
  obtain ⟨a1, a2, -⟩ := h5 b (hG b hb).1
  exact ⟨a1, a2, (hG b hb).2⟩
theorem WrY.congr {G : Nat → Prop} {base B : Nat} {P Q : Pt} {W w : World} (h : WrY G base B P W w) (e : P = Q) : WrY G base B Q W w := e ▸ h
def WrF (G : Nat → Prop) (W : World) (F : World → Prop) (base B : Nat) (P : Pt) (w : World) : Prop :=
  ∃ (G' : Nat → Prop) (W' : World), WrY G' base B P W' w ∧ (∀ b, G b → G' b ∧ b < W.heap.size) ∧ Turns (fun b => ¬ G b) W W' ∧ ∀ w', Turns (fun b => ¬ G' b) W' w' → F w'
theorem WrF.start {G : Nat → Prop} {W w : World} {F : World → Prop} {base B : Nat} {P : Pt} (h : WrY G base B P W w) (hF : ∀ w', Turns (fun b => ¬ G b) W w' → F w') : WrF G W F base B P w :=
  ⟨G, W, h, fun b hb => ⟨hb, by obtain ⟨_, _, _, _, _, h5⟩ := h; exact (h5 b hb).2.2⟩, Turns.refl _ _, hF⟩
theorem WrF.now {G : Nat → Prop} {W w : World} {F : World → Prop} {base B : Nat} {P : Pt} (h : WrF G W F base B P w) : F w := by
  obtain ⟨G', W', h1, -, -, h4⟩ := h; exact h4 w h1.turns
theorem WrF.done {G : Nat → Prop} {W w : World} {F : World → Prop} {base B : Nat} {P : Pt} (h : WrF G W F base B P w) : WrY G base B P W w := by
  obtain ⟨G', W', h1, h2, h3, -⟩ := h; exact h1.less h2 h3
theorem WrF.put {G : Nat → Prop} {W w : World} {F : World → Prop} {base B v k : Nat} {P : Pt} (h : WrF G W F base B P w) (hv : v < 2 ^ k) (hk : k ≤ 24) (hmax : szP P + k ≤ 8388608) :
    Calls Tryz.prog 101 #[.pointer (some ⟨B, 0, none⟩), .int .u32 (v : Int), .int .i64 (k : Int)] w fun e w' => e = .returned (.int .i64 0) ∧ WrF G W F base B (P ++ [(v, k)]) w' := by
  obtain ⟨G', W', h1, h2, h3, h4⟩ := h
  exact (putY h1 hv hk hmax).mono fun e w' ⟨he, h5⟩ => ⟨he, G', W', h5, h2, h3, h4⟩
theorem WrF.align {G : Nat → Prop} {W w : World} {F : World → Prop} {base B : Nat} {P : Pt} (h : WrF G W F base B P w) (hmax : szP P + 8 ≤ 8388608) :
    Calls Tryz.prog 107 #[.pointer (some ⟨B, 0, none⟩)] w fun e w' => e = .returned (.int .i64 0) ∧ WrF G W F base B (P ++ [(0, (8 - szP P % 8) % 8)]) w' := by
  obtain ⟨G', W', h1, h2, h3, h4⟩ := h
  exact (alignY h1 hmax).mono fun e w' ⟨he, h5⟩ => ⟨he, G', W', h5, h2, h3, h4⟩
theorem WrF.below {G : Nat → Prop} {W w w' : World} {F : World → Prop} {base B : Nat} {P : Pt} (h : WrF G W F base B P w) (hb : Below w.heap.size w w') : WrF G W F base B P w' := by
  obtain ⟨G', W', h1, h2, h3, h4⟩ := h
  exact ⟨G', W', h1.below hb, h2, h3, h4⟩
theorem WrF.congr {G : Nat → Prop} {W w : World} {F : World → Prop} {base B : Nat} {P Q : Pt} (h : WrF G W F base B P w) (e : P = Q) : WrF G W F base B Q w := e ▸ h
end Go.Proofs.YtoladolgmeanhaaGreat

/- inflate, plainly: blocks that are laid are told: stored, by the fixed codes, by their own. -/
namespace Go.Proofs.YtoladolgmeanhaaGreat

def clens : List Nat := List.replicate 13 4 ++ List.replicate 6 5
theorem szP_threes (f : Nat → Nat) : ∀ xs : List Nat, szP (xs.map fun i => (f i, 3)) = 3 * xs.length
  | [] => rfl
  | x :: xs => by rw [List.map_cons, szP, szP_threes f xs, List.length_cons]; omega
def putV (vs : List Nat) : Pt := vs.map fun v => (cd (lq clens) clens.length v, lq clens v)
def putO (x y : List Nat) : Pt := (29, 5) :: (29, 5) :: (15, 4) :: (ordL.map (fun i => (lq clens i, 3)) ++ putV (x ++ y))
theorem szP_bys : ∀ bs : List Nat, szP (bs.map fun b => (b, 8)) = 8 * bs.length
  | [] => rfl
  | b :: bs => by rw [List.map_cons, szP, szP_bys bs, List.length_cons]; omega
def putS (a : Nat) (bs : List Nat) : Pt := (0, (8 - a % 8) % 8) :: (bs.length, 16) :: (65535 - bs.length, 16) :: bs.map fun b => (b, 8)
end Go.Proofs.YtoladolgmeanhaaGreat

/- inflate, plainly: all blocks that are laid, one behind the other, are told. -/
namespace Go.Proofs.YtoladolgmeanhaaGreat

inductive Bn where
  | st (bs : List Nat)
  | fx (ts : List Tn)
  | dy (x y : List Nat) (ts : List Tn)
def Bn.kind : Bn → Nat
  | .st _ => 0
  | .fx _ => 1
  | .dy _ _ _ => 2
def endP (A : List Nat) : Pt := [(cd (lq A) A.length 256, lq A 256)]
def Bn.body (a : Nat) : Bn → Pt
  | .st bs => putS a bs
  | .fx ts => laidT fixA fixD ts ++ endP fixA
  | .dy x y ts => putO x y ++ (laidT x y ts ++ endP x)
def Bn.put (a : Nat) (last : Bool) (b : Bn) : Pt := (if last then 1 else 0, 1) :: (b.kind, 2) :: b.body (a + 3)
def Bn.tell (b : Bn) (o : List Nat) : List Nat := match b with
  | .st bs => o ++ bs
  | .fx ts => toldT ts o
  | .dy _ _ ts => toldT ts o
def Bn.ok (b : Bn) (o : List Nat) : Prop := match b with
  | .st bs => bs.length ≤ 65535 ∧ ∀ x ∈ bs, x < 256
  | .fx ts => mayT fixA fixD ts o
  | .dy x y ts => x.length = 286 ∧ y.length = 30 ∧ (∀ v ∈ x ++ y, v < 16) ∧ chk x = 0 ∧ chk y = 0 ∧ 0 < lq x 256 ∧ mayT x y ts o
def putB : Nat → List Bn → Pt
  | _, [] => []
  | a, b :: r => b.put a r.isEmpty ++ putB (a + szP (b.put a r.isEmpty)) r
def okB : List Bn → List Nat → Prop
  | [], _ => True
  | b :: r, o => b.ok o ∧ okB r (b.tell o)
theorem cd_low (f : Nat → Nat) (N i : Nat) : cd f N i < 2 ^ f i := trn_low _ _
end Go.Proofs.YtoladolgmeanhaaGreat
