/- Several texts in one, each with its own head. -/
import Derived.Test.YtoladolgmeanhaaGreatQp17
import Derived.Test.YtoladolgmeanhaaGreatQp12
/- inflate, plainly: each step has one answer; what the example tells. -/
namespace Go.Proofs.YtoladolgmeanhaaGreat

theorem told_ex {f : Nat → Nat} {N : Nat} (ha : Apt f N) : ∀ n, (∃ F L, ToldF f N n 0 F ∧ ToldM f N n 0 L) ∧ ∀ k, k ≤ N → ∃ F L, ToldF f N n k F ∧ ToldM f N n k L := by
  have step : ∀ n, (∃ F L, ToldF f N n 0 F ∧ ToldM f N n 0 L) → ∀ k, k ≤ N → ∃ F L, ToldF f N n k F ∧ ToldM f N n k L := fun n h0 k => by
    induction k with
    | zero => exact fun _ => h0
    | succ k ih =>
      intro hk
      obtain ⟨F, L, h1, h2⟩ := ih (by omega)
      by_cases e : f k = n + 1
      · exact ⟨_, _, h1.hand ha (by omega) e, h2.hand (by omega) e⟩
      · exact ⟨F, L, h1.congr (fun i _ => Tld.skip e), h2.congr (fun i _ => Tld.skip e)⟩
  intro n
  induction n with
  | zero =>
    have h0 : ∃ F L, ToldF f N 0 0 F ∧ ToldM f N 0 0 L := ⟨fun _ => none, 0, ⟨fun i hi ht => by unfold Tld at ht; omega, fun q x hx => by cases hx⟩, ⟨fun i hi ht => by unfold Tld at ht; omega, .inl rfl⟩⟩
    exact ⟨h0, step 0 h0⟩
  | succ n ih =>
    obtain ⟨F, L, h1, h2⟩ := ih.2 N (Nat.le_refl _)
    have h0 : ∃ F L, ToldF f N (n + 1) 0 F ∧ ToldM f N (n + 1) 0 L := ⟨F, L, h1.congr (fun i hi => Tld.next hi), h2.congr (fun i hi => Tld.next hi)⟩
    exact ⟨h0, step (n + 1) h0⟩
theorem told_of_chk {ls : List Nat} (h : chk ls = 0) : ∃ F L, ToldF (lq ls) ls.length 15 0 F ∧ ToldM (lq ls) ls.length 15 0 L := (told_ex (apt_chk h) 15).1
theorem InfRp.view {D l : List Nat} {lim a x : Nat} {o : List Nat} {r : InfSt} (h : InfRp D l lim a x o r) :
    (285 < x ∧ r = .no 80) ∨ (x ≤ 285 ∧ 8 * l.length < a + lnBits x ∧ r = .no 50) ∨ (x ≤ 285 ∧ a + lnBits x ≤ 8 * l.length ∧ ∃ y e t, Sy D l (a + lnBits x) y e t ∧
      ((e ≠ 0 ∧ r = .no e) ∨ (e = 0 ∧ 29 < y ∧ r = .no 80) ∨ (e = 0 ∧ y ≤ 29 ∧ 8 * l.length < a + lnBits x + t + dsBits y ∧ r = .no 50) ∨
       (e = 0 ∧ y ≤ 29 ∧ a + lnBits x + t + dsBits y ≤ 8 * l.length ∧
        ((o.length < dsBase y + nb l (a + lnBits x + t) (dsBits y) ∧ r = .no 70) ∨
         (dsBase y + nb l (a + lnBits x + t) (dsBits y) ≤ o.length ∧ lim < o.length + (lnBase x + nb l a (lnBits x)) ∧ r = .no 81) ∨
         (dsBase y + nb l (a + lnBits x + t) (dsBits y) ≤ o.length ∧ o.length + (lnBase x + nb l a (lnBits x)) ≤ lim ∧
          r = .go (a + lnBits x + t + dsBits y) (ext (dsBase y + nb l (a + lnBits x + t) (dsBits y)) (lnBase x + nb l a (lnBits x)) o)))))) := by
  cases h with
  | far h => exact .inl ⟨h, rfl⟩
  | few h h1 => exact .inr (.inl ⟨h, h1, rfl⟩)
  | bad h h1 y t e h2 h3 => exact .inr (.inr ⟨h, h1, y, e, t, h2, .inl ⟨h3, rfl⟩⟩)
  | wide h h1 y t h2 h3 => exact .inr (.inr ⟨h, h1, y, 0, t, h2, .inr (.inl ⟨rfl, h3, rfl⟩)⟩)
  | few2 h h1 y t h2 h3 h4 => exact .inr (.inr ⟨h, h1, y, 0, t, h2, .inr (.inr (.inl ⟨rfl, h3, h4, rfl⟩))⟩)
  | dist h h1 y t h2 h3 h4 h5 => exact .inr (.inr ⟨h, h1, y, 0, t, h2, .inr (.inr (.inr ⟨rfl, h3, h4, .inl ⟨h5, rfl⟩⟩))⟩)
  | over h h1 y t h2 h3 h4 h5 h6 => exact .inr (.inr ⟨h, h1, y, 0, t, h2, .inr (.inr (.inr ⟨rfl, h3, h4, .inr (.inl ⟨h5, h6, rfl⟩)⟩))⟩)
  | done h h1 y t h2 h3 h4 h5 h6 => exact .inr (.inr ⟨h, h1, y, 0, t, h2, .inr (.inr (.inr ⟨rfl, h3, h4, .inr (.inr ⟨h5, h6, rfl⟩)⟩))⟩)
theorem InfRp.det {D l : List Nat} {lim a x : Nat} {o : List Nat} {r r' : InfSt} (h : InfRp D l lim a x o r) (h' : InfRp D l lim a x o r') : r = r' := by
  rcases h.view with ⟨p1, rfl⟩ | ⟨p1, p2, rfl⟩ | ⟨p1, p2, y, e, t, p3, p⟩ <;> rcases h'.view with ⟨q1, rfl⟩ | ⟨q1, q2, rfl⟩ | ⟨q1, q2, y', e', t', q3, q⟩ <;> first | rfl | (exfalso; omega) | skip
  obtain ⟨rfl, rfl, rfl⟩ := p3.only q3
  rcases p with ⟨p4, rfl⟩ | ⟨p4, p5, rfl⟩ | ⟨p4, p5, p6, rfl⟩ | ⟨p4, p5, p6, p7⟩ <;> rcases q with ⟨q4, rfl⟩ | ⟨q4, q5, rfl⟩ | ⟨q4, q5, q6, rfl⟩ | ⟨q4, q5, q6, q7⟩ <;> first | rfl | (exfalso; omega) | skip
  rcases p7 with ⟨p7, rfl⟩ | ⟨p7, p8, rfl⟩ | ⟨p7, p8, rfl⟩ <;> rcases q7 with ⟨q7, rfl⟩ | ⟨q7, q8, rfl⟩ | ⟨q7, q8, rfl⟩ <;> first | rfl | (exfalso; omega)
theorem InfTk.view {A D l : List Nat} {lim a : Nat} {o : List Nat} {r : InfSt} (h : InfTk A D l lim a o r) : ∃ x e s, Sy A l a x e s ∧
    ((e ≠ 0 ∧ r = .no e) ∨ (e = 0 ∧ x = 256 ∧ r = .fin (a + s)) ∨ (e = 0 ∧ x < 256 ∧ o.length < lim ∧ r = .go (a + s) (o ++ [x])) ∨ (e = 0 ∧ x < 256 ∧ lim ≤ o.length ∧ r = .no 81) ∨ (e = 0 ∧ 256 < x ∧ InfRp D l lim (a + s) x o r)) := by
  cases h with
  | bad x s e h h1 => exact ⟨x, e, s, h, .inl ⟨h1, rfl⟩⟩
  | fin s h => exact ⟨256, 0, s, h, .inr (.inl ⟨rfl, rfl, rfl⟩)⟩
  | byte x s h h1 h2 => exact ⟨x, 0, s, h, .inr (.inr (.inl ⟨rfl, h1, h2, rfl⟩))⟩
  | full x s h h1 h2 => exact ⟨x, 0, s, h, .inr (.inr (.inr (.inl ⟨rfl, h1, h2, rfl⟩)))⟩
  | rep x s r h h1 h2 => exact ⟨x, 0, s, h, .inr (.inr (.inr (.inr ⟨rfl, h1, h2⟩)))⟩
theorem InfTk.det {A D l : List Nat} {lim a : Nat} {o : List Nat} {r r' : InfSt} (h : InfTk A D l lim a o r) (h' : InfTk A D l lim a o r') : r = r' := by
  obtain ⟨x, e, s, p, p'⟩ := h.view
  obtain ⟨x', e', s', q, q'⟩ := h'.view
  obtain ⟨rfl, rfl, rfl⟩ := p.only q
  rcases p' with ⟨p1, rfl⟩ | ⟨p1, p2, rfl⟩ | ⟨p1, p2, p3, rfl⟩ | ⟨p1, p2, p3, rfl⟩ | ⟨p1, p2, p3⟩ <;> rcases q' with ⟨q1, rfl⟩ | ⟨q1, q2, rfl⟩ | ⟨q1, q2, q3, rfl⟩ | ⟨q1, q2, q3, rfl⟩ | ⟨q1, q2, q3⟩ <;> first | rfl | (exfalso; omega) | exact p3.det q3
theorem InfToks.det {A D l : List Nat} {lim a : Nat} {o : List Nat} {r : InfSt} (h : InfToks A D l lim a o r) : ∀ r', InfToks A D l lim a o r' → r = r' := by
  induction h with
  | fin a a' o h =>
    intro r' h'
    cases h' with
    | fin _ a2 _ h2 => have := h.det h2; injection this with this; rw [this]
    | no _ _ e h2 => have := h.det h2; cases this
    | more _ a2 _ o2 _ h2 h3 => have := h.det h2; cases this
  | no a o e h =>
    intro r' h'
    cases h' with
    | fin _ a2 _ h2 => have := h.det h2; cases this
    | no _ _ e h2 => have := h.det h2; injection this with this; rw [this]
    | more _ a2 _ o2 _ h2 h3 => have := h.det h2; cases this
  | more a a' o o' r h h1 ih =>
    intro r' h'
    cases h' with
    | fin _ a2 _ h2 => have := h.det h2; cases this
    | no _ _ e h2 => have := h.det h2; cases this
    | more _ a2 _ o2 _ h2 h3 =>
      have := h.det h2
      injection this with e1 e2
      subst e1; subst e2
      exact ih r' h3
theorem InfSd.det {l : List Nat} {lim a : Nat} {o : List Nat} {r r' : InfSt} (h : InfSd l lim a o r) (h' : InfSd l lim a o r') : r = r' := by
  cases h <;> cases h' <;> first | rfl | (exfalso; omega)
theorem SvC.only {x k c v k' c' v' : Nat} {ls : List Nat} (h : SvC x k c v ls) (h' : SvC x k' c' v' ls) : k = k' ∧ c = c' ∧ v = v' := by
  unfold SvC at h h'
  omega
theorem InfSv.det {C l : List Nat} {n a : Nat} {ls : List Nat} {r r' : InfSt} (h : InfSv C l n a ls r) (h' : InfSv C l n a ls r') : r = r' := by
  cases h with
  | bad x s e h h1 =>
    cases h' with
    | bad _ _ _ k k1 => obtain ⟨rfl, rfl, rfl⟩ := h.only k; rfl
    | first _ k k1 => obtain ⟨rfl, rfl, rfl⟩ := h.only k; exact absurd rfl h1
    | few _ _ _ _ _ k => obtain ⟨rfl, rfl, rfl⟩ := h.only k; exact absurd rfl h1
    | many _ _ _ _ _ k => obtain ⟨rfl, rfl, rfl⟩ := h.only k; exact absurd rfl h1
    | go _ _ _ _ _ k => obtain ⟨rfl, rfl, rfl⟩ := h.only k; exact absurd rfl h1
  | first s h h1 =>
    cases h' with
    | bad _ _ _ k k1 => obtain ⟨rfl, rfl, rfl⟩ := h.only k; exact absurd rfl k1
    | first _ k k1 => rfl
    | few _ _ _ _ _ k k1 => obtain ⟨rfl, -, rfl⟩ := h.only k; exfalso; omega
    | many _ _ _ _ _ k k1 => obtain ⟨rfl, -, rfl⟩ := h.only k; exfalso; omega
    | go _ _ _ _ _ k k1 => obtain ⟨rfl, -, rfl⟩ := h.only k; exfalso; omega
  | few x s k c v h h1 h2 =>
    cases h' with
    | bad _ _ _ k k1 => obtain ⟨rfl, rfl, rfl⟩ := h.only k; exact absurd rfl k1
    | first _ k k1 => obtain ⟨rfl, -, rfl⟩ := h.only k; exfalso; omega
    | few _ _ _ _ _ k k1 => rfl
    | many _ _ _ _ _ k k1 k2 => obtain ⟨rfl, -, rfl⟩ := h.only k; obtain ⟨rfl, rfl, rfl⟩ := SvC.only h1 k1; exfalso; omega
    | go _ _ _ _ _ k k1 k2 => obtain ⟨rfl, -, rfl⟩ := h.only k; obtain ⟨rfl, rfl, rfl⟩ := SvC.only h1 k1; exfalso; omega
  | many x s k c v h h1 h2 h3 =>
    cases h' with
    | bad _ _ _ k k1 => obtain ⟨rfl, rfl, rfl⟩ := h.only k; exact absurd rfl k1
    | first _ k k1 => rfl
    | few _ _ _ _ _ k k1 k2 => obtain ⟨rfl, -, rfl⟩ := h.only k; obtain ⟨rfl, rfl, rfl⟩ := SvC.only h1 k1; exfalso; omega
    | many _ _ _ _ _ k k1 k2 => rfl
    | go _ _ _ _ _ k k1 k2 k3 => obtain ⟨rfl, -, rfl⟩ := h.only k; obtain ⟨rfl, rfl, rfl⟩ := SvC.only h1 k1; exfalso; omega
  | go x s k c v h h1 h2 h3 =>
    cases h' with
    | bad _ _ _ k k1 => obtain ⟨rfl, rfl, rfl⟩ := h.only k; exact absurd rfl k1
    | first _ k k1 => obtain ⟨rfl, -, rfl⟩ := h.only k; exfalso; omega
    | few _ _ _ _ _ k k1 k2 => obtain ⟨rfl, -, rfl⟩ := h.only k; obtain ⟨rfl, rfl, rfl⟩ := SvC.only h1 k1; exfalso; omega
    | many _ _ _ _ _ k k1 k2 k3 => obtain ⟨rfl, -, rfl⟩ := h.only k; obtain ⟨rfl, rfl, rfl⟩ := SvC.only h1 k1; exfalso; omega
    | go _ _ _ _ _ k k1 k2 k3 => obtain ⟨rfl, -, rfl⟩ := h.only k; obtain ⟨rfl, rfl, rfl⟩ := SvC.only h1 k1; rfl
theorem InfLs.det {C l : List Nat} {n a : Nat} {ls : List Nat} {r : InfSt} (h : InfLs C l n a ls r) : ∀ r', InfLs C l n a ls r' → r = r' := by
  induction h with
  | fin a ls h =>
    intro r' h'
    cases h' with
    | fin => rfl
    | no => exfalso; omega
    | more => exfalso; omega
  | no a ls e h0 h =>
    intro r' h'
    cases h' with
    | fin => exfalso; omega
    | no _ _ e' _ h2 => have := h.det h2; injection this with this; rw [this]
    | more _ a2 _ o2 _ _ h2 h3 => have := h.det h2; cases this
  | more a a' ls ls' r h0 h h1 ih =>
    intro r' h'
    cases h' with
    | fin => exfalso; omega
    | no _ _ e' _ h2 => have := h.det h2; cases this
    | more _ a2 _ o2 _ _ h2 h3 =>
      have := h.det h2
      injection this with e1 e2
      subst e1; subst e2
      exact ih r' h3
theorem InfDy.det {l : List Nat} {a n n' : Nat} {r r' : InfSt} (h : InfDy l a n r) (h' : InfDy l a n' r') : n = n' ∧ r = r' := by
  cases h with
  | few h => cases h' <;> first | exact ⟨rfl, rfl⟩ | (exfalso; omega)
  | many h h1 => cases h' <;> first | exact ⟨rfl, rfl⟩ | (exfalso; omega)
  | few2 h h1 h2 => cases h' <;> first | exact ⟨rfl, rfl⟩ | (exfalso; omega)
  | code h h1 h2 h3 => cases h' <;> first | exact ⟨rfl, rfl⟩ | (exfalso; omega) | (exact absurd (by assumption) h3)
  | lens h h1 h2 h3 e h4 =>
    cases h' with
    | few => exfalso; omega
    | many => exfalso; omega
    | few2 => exfalso; omega
    | code _ _ _ k => exact absurd h3 k
    | lens _ _ _ _ e' k4 => have := h4.det _ k4; injection this with this; rw [this]; exact ⟨rfl, rfl⟩
    | last _ _ _ _ a' ls k4 => have := h4.det _ k4; cases this
    | done _ _ _ _ a' ls k4 => have := h4.det _ k4; cases this
  | last h h1 h2 h3 a' ls h4 e h5 =>
    cases h' with
    | few => exfalso; omega
    | many => exfalso; omega
    | few2 => exfalso; omega
    | code _ _ _ k => exact absurd h3 k
    | lens _ _ _ _ e' k4 => have := h4.det _ k4; cases this
    | last _ _ _ _ a2 ls2 k4 e2 k5 =>
      have := h4.det _ k4
      injection this with e1 e3
      subst e1; subst e3
      rcases h5 with ⟨p, rfl⟩ | ⟨p, p2, rfl⟩ | ⟨p, p2, p3, rfl⟩ <;> rcases k5 with ⟨q, rfl⟩ | ⟨q, q2, rfl⟩ | ⟨q, q2, q3, rfl⟩ <;> first | exact ⟨rfl, rfl⟩ | (exfalso; omega)
    | done _ _ _ _ a2 ls2 k4 k5 =>
      have := h4.det _ k4
      injection this with e1 e3
      subst e1; subst e3
      exfalso; omega
  | done h h1 h2 h3 a' ls h4 h5 =>
    cases h' with
    | few => exfalso; omega
    | many => exfalso; omega
    | few2 => exfalso; omega
    | code _ _ _ k => exact absurd h3 k
    | lens _ _ _ _ e' k4 => have := h4.det _ k4; cases this
    | last _ _ _ _ a2 ls2 k4 e2 k5 =>
      have := h4.det _ k4
      injection this with e1 e3
      subst e1; subst e3
      exfalso; omega
    | done _ _ _ _ a2 ls2 k4 k5 =>
      have := h4.det _ k4
      injection this with e1 e3
      subst e1; subst e3
      exact ⟨rfl, rfl⟩
theorem InfBk.det {l : List Nat} {lim a : Nat} {o : List Nat} {r r' : InfSt} (h : InfBk l lim a o r) (h' : InfBk l lim a o r') : r = r' := by
  cases h with
  | few h => cases h' <;> first | rfl | (exfalso; omega)
  | stored h h1 r h2 =>
    cases h' with
    | stored _ _ _ k2 => exact h2.det k2
    | _ => exfalso; omega
  | fixed h h1 r h2 =>
    cases h' with
    | fixed _ _ _ k2 => exact h2.det _ k2
    | _ => exfalso; omega
  | bad h h1 e h2 =>
    cases h' with
    | bad _ _ _ k2 => have := (h2.det k2).2; exact this
    | dyn _ _ n a' ls k2 => have := (h2.det k2).2; cases this
    | _ => exfalso; omega
  | dyn h h1 n a' ls h2 r h3 =>
    cases h' with
    | bad _ _ _ k2 => have := (h2.det k2).2; cases this
    | dyn _ _ n2 a2 ls2 k2 _ k3 =>
      obtain ⟨e0, e⟩ := h2.det k2
      injection e with e1 e2
      subst e0; subst e1; subst e2
      exact h3.det _ k3
    | _ => exfalso; omega
  | unknown h h1 => cases h' <;> first | rfl | (exfalso; omega)
theorem InfBl.det {l : List Nat} {lim a : Nat} {o : List Nat} {r : InfSt} (h : InfBl l lim a o r) : ∀ r', InfBl l lim a o r' → r = r' := by
  induction h with
  | few a o h => intro r' h'; cases h' <;> first | rfl | (exfalso; omega)
  | no a o h e h1 =>
    intro r' h'
    cases h' with
    | few => exfalso; omega
    | no _ _ _ e' k => have := h1.det k; exact this
    | last _ _ _ _ a' o' k => have := h1.det k; cases this
    | more _ _ _ _ a' o' k => have := h1.det k; cases this
  | last a o h h1 a' o' h2 =>
    intro r' h'
    cases h' with
    | few => exfalso; omega
    | no _ _ _ e' k => have := h2.det k; cases this
    | last _ _ _ _ a2 o2 k => exact h2.det k
    | more _ _ _ k1 => exact absurd h1 k1
  | more a o h h1 a' o' h2 r h3 ih =>
    intro r' h'
    cases h' with
    | few => exfalso; omega
    | no _ _ _ e' k => have := h2.det k; cases this
    | last _ _ _ k1 => exact absurd k1 h1
    | more _ _ _ _ a2 o2 k _ k3 =>
      have := h2.det k
      injection this with e1 e2
      subst e1; subst e2
      exact ih r' k3
theorem Infl.det {l : List Nat} {limit : Int} {o o' : List Nat} {k k' : Nat} {e e' : Int} (h : Infl l limit o k e) (h' : Infl l limit o' k' e') : o = o' ∧ k = k' ∧ e = e' := by
  cases h with
  | arg h => cases h' <;> first | exact ⟨rfl, rfl, rfl⟩ | (exfalso; omega)
  | go lim a o h h1 h2 =>
    cases h' with
    | arg => exfalso; omega
    | go lim' a' o' k k1 k2 =>
      obtain rfl : lim = lim' := by omega
      have := h2.det _ k2
      injection this with e1 e2
      subst e1; subst e2
      exact ⟨rfl, rfl, rfl⟩
    | no lim' er k k1 k2 =>
      obtain rfl : lim = lim' := by omega
      have := h2.det _ k2
      cases this
  | no lim er h h1 h2 =>
    cases h' with
    | arg => exfalso; omega
    | go lim' a' o' k k1 k2 =>
      obtain rfl : lim = lim' := by omega
      have := h2.det _ k2
      cases this
    | no lim' er k k1 k2 =>
      obtain rfl : lim = lim' := by omega
      have := h2.det _ k2
      injection this with e1
      subst e1
      exact ⟨rfl, rfl, rfl⟩
end Go.Proofs.YtoladolgmeanhaaGreat

/- inflate, plainly: what a stream tells elsewhere: further on in other bytes, behind other bytes that came, under a greater limit. -/
namespace Go.Proofs.YtoladolgmeanhaaGreat

theorem numB_app : ∀ a b : List Nat, numB (a ++ b) = numB a + 256 ^ a.length * numB b
  | [], b => by simp [numB]
  | x :: a, b => by
    rw [List.cons_append, numB, numB, numB_app a b, List.length_cons, Nat.pow_succ, Nat.mul_add]
    rw [← Nat.mul_assoc, Nat.mul_comm 256 (256 ^ a.length)]
    omega
theorem p256 (n : Nat) : 256 ^ n = 2 ^ (8 * n) := by rw [Nat.pow_mul]
theorem nb_ext (l m : List Nat) (a k : Nat) (h : a + k ≤ 8 * l.length) : nb (l ++ m) a k = nb l a k := by
  unfold nb
  rw [numB_app, p256, show 8 * l.length = a + (k + (8 * l.length - a - k)) by omega, Nat.pow_add, Nat.pow_add, Nat.mul_assoc, Nat.add_mul_div_left _ _ (Nat.two_pow_pos a), Nat.mul_assoc, Nat.add_mul_mod_self_left]
structure Trn (l l' : List Nat) (K s : Nat) : Prop where
  num : ∀ a k, a + k ≤ K → nb l' (a + s) k = nb l a k
  le : K + s ≤ 8 * l'.length
  eight : s % 8 = 0
section
variable {l l' : List Nat} {K s lim lim' : Nat} {q : List Nat}

theorem Trn.sy (T : Trn l l' K s) {ls : List Nat} {a x t : Nat} (h : Sy ls l a x 0 t) (hK : a + t ≤ K) : Sy ls l' (a + s) x 0 t := by
  obtain ⟨F, L, hF, hM, h⟩ := h
  refine ⟨F, L, hF, hM, ⟨fun u u1 u2 => ?_, ⟨h.le.1, by have := T.le; omega⟩, ?_⟩⟩
  · rw [show bt l' (a + s) u = bt l a u from T.num a u (by omega)]
    exact h.no u u1 u2
  · rcases h.ans with ⟨h1, h2, h3⟩ | ⟨h1, -⟩ | ⟨h1, -⟩
    · exact .inl ⟨rfl, h2, by rw [show bt l' (a + s) t = bt l a t from T.num a t hK]; exact h3⟩
    · cases h1
    · cases h1
theorem Trn.sv (T : Trn l l' K s) {C : List Nat} {n a a' : Nat} {ls ls' : List Nat} (h : InfSv C l n a ls (.go a' ls')) (hK : a' ≤ K) : InfSv C l' n (a + s) ls (.go (a' + s) ls') := by
  have hle := T.le
  cases h with
  | go x t k c v h h1 h2 h3 =>
    have n1 := T.num (a + t) k hK
    have hd := InfSv.go (C := C) (l := l') (n := n) (a := a + s) (ls := ls) x t k c v (T.sy h (by omega)) h1 (by omega) (by rw [show a + s + t = a + t + s by omega, n1]; exact h3)
    refine Eq.mp (congrArg _ ?_) hd
    rw [show a + s + t = a + t + s by omega, n1]
    congr 1; omega
theorem Trn.ls (T : Trn l l' K s) {C : List Nat} {n a : Nat} {ls : List Nat} {r : InfSt} (h : InfLs C l n a ls r) : ∀ a' ls', r = .go a' ls' → a' ≤ K → InfLs C l' n (a + s) ls (.go (a' + s) ls') := by
  induction h with
  | fin a ls h =>
    intro a' o' e hK
    injection e with e1 e2
    subst e1; subst e2
    exact .fin _ _ h
  | no => intro a' o' e; cases e
  | more a a1 o o1 r h0 h h1 ih =>
    intro a' o' e hK
    have := h1.up a' o' e
    exact .more _ _ _ _ _ h0 (T.sv h (by omega)) (ih a' o' e hK)
theorem clF_tr (T : Trn l l' K s) (a : Nat) : ∀ k, a + 3 * k ≤ K → clF l' (a + s) k = clF l a k
  | 0, _ => rfl
  | k + 1, h => by
    funext i
    unfold clF
    rw [clF_tr T a k (by omega), show a + s + 3 * k = a + 3 * k + s by omega, T.num (a + 3 * k) 3 (by omega)]
theorem Trn.dy (T : Trn l l' K s) {a n a' : Nat} {ls : List Nat} (h : InfDy l a n (.go a' ls)) (hK : a' ≤ K) : InfDy l' (a + s) n (.go (a' + s) ls) := by
  have hle := T.le
  cases h with
  | done h h1 h2 h3 a' ls h4 h5 =>
    have hup := h4.up _ _ rfl
    have n1 := T.num a 5 (by omega)
    have n2 := T.num (a + 5) 5 (by omega)
    have n3 := T.num (a + 10) 4 (by omega)
    have e1 : a + s + 5 = a + 5 + s := by omega
    have e2 : a + s + 10 = a + 10 + s := by omega
    have e3 : a + s + 14 = a + 14 + s := by omega
    have n4 : clL l' (a + s + 14) (nb l (a + 10) 4 + 4) = clL l (a + 14) (nb l (a + 10) 4 + 4) := by unfold clL; rw [e3, clF_tr T (a + 14) _ (by omega)]
    have n5 := T.ls h4 _ _ rfl hK
    have hd := InfDy.done (l := l') (a := a + s) (by omega) (by rw [n1, e1, n2]; exact h1) (by rw [e2, n3]; omega) (by rw [e2, n3, n4]; exact h3) (a' + s) ls (by
      rw [n1, e1, n2, e2, n3, n4]
      rw [show a + s + 14 + 3 * (nb l (a + 10) 4 + 4) = a + 14 + 3 * (nb l (a + 10) 4 + 4) + s by omega]
      exact n5) (by rw [n1]; exact h5)
    rw [n1] at hd
    exact hd
end

end Go.Proofs.YtoladolgmeanhaaGreat

/- inflate, plainly: a stored block ahead of a stream; bytes behind it; its end. -/
namespace Go.Proofs.YtoladolgmeanhaaGreat

theorem Trn.behind (l m : List Nat) : Trn l (l ++ m) (8 * l.length) 0 :=
  ⟨fun a k h => nb_ext l m a k h, by rw [List.length_append]; omega, rfl⟩
theorem InfRp.in' {D l : List Nat} {lim a x : Nat} {o : List Nat} {r : InfSt} (h : InfRp D l lim a x o r) : ∀ a' o', r = .go a' o' → a' ≤ 8 * l.length := by
  intro a' o' e
  cases h <;> cases e
  assumption
theorem InfTk.in' {A D l : List Nat} {lim a : Nat} {o : List Nat} {r : InfSt} (h : InfTk A D l lim a o r) : (∀ a' o', r = .go a' o' → a' ≤ 8 * l.length) ∧ ∀ a', r = .fin a' → a' ≤ 8 * l.length := by
  refine ⟨fun a' o' e => ?_, fun a' e => ?_⟩
  · cases h with
    | bad => cases e
    | fin => cases e
    | byte x s h => cases e; exact h.in'
    | full => cases e
    | rep x s r h h1 h2 => exact h2.in' a' o' e
  · cases h with
    | bad => cases e
    | fin s h => cases e; exact h.in'
    | byte => cases e
    | full => cases e
    | rep x s r h h1 h2 => subst e; cases h2
theorem InfToks.in' {A D l : List Nat} {lim a : Nat} {o : List Nat} {r : InfSt} (h : InfToks A D l lim a o r) : ∀ a' o', r = .go a' o' → a' ≤ 8 * l.length := by
  induction h with
  | fin a a' o h => intro x y e; cases e; exact h.in'.2 _ rfl
  | no => intro x y e; cases e
  | more a a' o o' r h h1 ih => exact ih
theorem InfBk.in' {l : List Nat} {lim a : Nat} {o : List Nat} {r : InfSt} (h : InfBk l lim a o r) : ∀ a' o', r = .go a' o' → a' ≤ 8 * l.length ∧ a + 2 ≤ a' := by
  intro a' o' e
  cases h with
  | few => cases e
  | stored h h1 r h2 =>
    subst e
    cases h2
    refine ⟨by assumption, ?_⟩
    unfold alN; omega
  | fixed h h1 r h2 => exact ⟨h2.in' _ _ e, h2.up _ _ e⟩
  | bad => cases e
  | dyn h h1 n a1 ls h2 r h3 => exact ⟨h3.in' _ _ e, by have := h3.up _ _ e; have := h2.up; omega⟩
  | unknown => cases e
theorem InfBl.in' {l : List Nat} {lim a : Nat} {o : List Nat} {r : InfSt} (h : InfBl l lim a o r) : ∀ a' o', r = .go a' o' → a' ≤ 8 * l.length ∧ a + 3 ≤ a' := by
  induction h with
  | few => intro a' o' e; cases e
  | no => intro a' o' e; cases e
  | last a o h h1 a1 o1 h2 => intro a' o' e; injection e with e1 e2; have := h2.in' _ _ rfl; omega
  | more a o h h1 a1 o1 h2 r h3 ih => intro a' o' e; have := ih a' o' e; have := h2.in' _ _ rfl; omega
theorem InfRp.fits {D l : List Nat} {lim a x : Nat} {o : List Nat} {r : InfSt} (h : InfRp D l lim a x o r) : ∀ a' o', r = .go a' o' → o'.length ≤ lim := by
  intro a' o' e
  cases h <;> cases e
  rw [ext_len]; assumption
theorem InfToks.fits {A D l : List Nat} {lim a : Nat} {o : List Nat} {r : InfSt} (h : InfToks A D l lim a o r) : o.length ≤ lim → ∀ a' o', r = .go a' o' → o'.length ≤ lim := by
  induction h with
  | fin a a' o h => intro h0 x y e; cases e; exact h0
  | no => intro h0 x y e; cases e
  | more a a' o o' r h h1 ih =>
    intro h0 x y e
    refine ih ?_ x y e
    cases h with
    | byte x s h h1 h2 => simp; omega
    | rep x s r h h1 h2 => exact h2.fits _ _ rfl
theorem InfBk.fits {l : List Nat} {lim a : Nat} {o : List Nat} {r : InfSt} (h : InfBk l lim a o r) (h0 : o.length ≤ lim) : ∀ a' o', r = .go a' o' → o'.length ≤ lim := by
  intro a' o' e
  cases h with
  | few => cases e
  | stored h h1 r h2 =>
    subst e
    cases h2
    rw [List.length_append, bys_len]; assumption
  | fixed h h1 r h2 => exact h2.fits h0 _ _ e
  | bad => cases e
  | dyn h h1 n a1 ls h2 r h3 => exact h3.fits h0 _ _ e
  | unknown => cases e
theorem InfBl.fits {l : List Nat} {lim a : Nat} {o : List Nat} {r : InfSt} (h : InfBl l lim a o r) : o.length ≤ lim → ∀ a' o', r = .go a' o' → o'.length ≤ lim := by
  induction h with
  | few => intro h0 a' o' e; cases e
  | no => intro h0 a' o' e; cases e
  | last a o h h1 a1 o1 h2 => intro h0 a' o' e; injection e with e1 e2; subst e2; exact h2.fits h0 _ _ rfl
  | more a o h h1 a1 o1 h2 r h3 ih => intro h0 a' o' e; exact ih (h2.fits h0 _ _ rfl) a' o' e
theorem Infl.ok {l : List Nat} {limit : Int} {o : List Nat} {k : Nat} (h : Infl l limit o k 0) : ∃ (lim a : Nat), limit = (lim : Int) ∧ lim ≤ 524288 ∧ InfBl l lim 0 [] (.go a o) ∧ k = alN a / 8 ∧ a ≤ 8 * l.length ∧ 3 ≤ a ∧ o.length ≤ lim := by
  cases h with
  | go lim a _ h h1 h2 => exact ⟨lim, a, h, h1, h2, rfl, (h2.in' _ _ rfl).1, by have := (h2.in' _ _ rfl).2; omega, h2.fits (Nat.zero_le _) _ _ rfl⟩
  | no lim _ h h1 h2 => exact absurd rfl (h2.ne _ rfl)
def hdr (k : Nat) : List Nat := [0, k % 256, k / 256, 255 - k % 256, 255 - k / 256]
end Go.Proofs.YtoladolgmeanhaaGreat

/- inflate, plainly: a greater limit; a stream that is cut. -/
namespace Go.Proofs.YtoladolgmeanhaaGreat

section
variable {l : List Nat} {lim lim' : Nat}

theorem InfRp.more {D : List Nat} {a x : Nat} {o : List Nat} {r : InfSt} (h : InfRp D l lim a x o r) (hle : lim ≤ lim') : r = .no 81 ∨ InfRp D l lim' a x o r := by
  cases h with
  | far h => exact .inr (.far h)
  | few h h1 => exact .inr (.few h h1)
  | bad h h1 y t e h2 h3 => exact .inr (.bad h h1 y t e h2 h3)
  | wide h h1 y t h2 h3 => exact .inr (.wide h h1 y t h2 h3)
  | few2 h h1 y t h2 h3 h4 => exact .inr (.few2 h h1 y t h2 h3 h4)
  | dist h h1 y t h2 h3 h4 h5 => exact .inr (.dist h h1 y t h2 h3 h4 h5)
  | over h h1 y t h2 h3 h4 h5 h6 => exact .inl rfl
  | done h h1 y t h2 h3 h4 h5 h6 => exact .inr (.done h h1 y t h2 h3 h4 h5 (by omega))
theorem InfTk.more {A D : List Nat} {a : Nat} {o : List Nat} {r : InfSt} (h : InfTk A D l lim a o r) (hle : lim ≤ lim') : r = .no 81 ∨ InfTk A D l lim' a o r := by
  cases h with
  | bad x s e h h1 => exact .inr (.bad x s e h h1)
  | fin s h => exact .inr (.fin s h)
  | byte x s h h1 h2 => exact .inr (.byte x s h h1 (by omega))
  | full x s h h1 h2 => exact .inl rfl
  | rep x s r h h1 h2 => exact (h2.more hle).imp id (fun k => .rep x s r h h1 k)
theorem InfToks.up' {A D : List Nat} {a : Nat} {o : List Nat} {r : InfSt} (h : InfToks A D l lim a o r) (hle : lim ≤ lim') : r = .no 81 ∨ InfToks A D l lim' a o r := by
  induction h with
  | fin a a' o h =>
    rcases h.more hle with k | k
    · cases k
    · exact .inr (.fin _ _ _ k)
  | no a o e h =>
    rcases h.more hle with k | k
    · exact .inl k
    · exact .inr (.no _ _ _ k)
  | more a a' o o' r h h1 ih =>
    rcases h.more hle with k | k
    · cases k
    · exact ih.imp id (fun j => .more _ _ _ _ _ k j)
theorem InfSd.more {a : Nat} {o : List Nat} {r : InfSt} (h : InfSd l lim a o r) (hle : lim ≤ lim') : r = .no 81 ∨ InfSd l lim' a o r := by
  cases h with
  | few h => exact .inr (.few h)
  | bad h h1 => exact .inr (.bad h h1)
  | over h h1 h2 => exact .inl rfl
  | few2 h h1 h2 h3 => exact .inr (.few2 h h1 (by omega) h3)
  | done h h1 h2 h3 => exact .inr (.done h h1 (by omega) h3)
theorem InfBk.more {a : Nat} {o : List Nat} {r : InfSt} (h : InfBk l lim a o r) (hle : lim ≤ lim') : r = .no 81 ∨ InfBk l lim' a o r := by
  cases h with
  | few h => exact .inr (.few h)
  | stored h h1 r h2 => exact (h2.more hle).imp id (fun k => .stored h h1 r k)
  | fixed h h1 r h2 => exact (h2.up' hle).imp id (fun k => .fixed h h1 r k)
  | bad h h1 e h2 => exact .inr (.bad h h1 e h2)
  | dyn h h1 n a1 ls h2 r h3 => exact (h3.up' hle).imp id (fun k => .dyn h h1 n a1 ls h2 r k)
  | unknown h h1 => exact .inr (.unknown h h1)
theorem InfBl.up' {a : Nat} {o : List Nat} {r : InfSt} (h : InfBl l lim a o r) (hle : lim ≤ lim') : r = .no 81 ∨ InfBl l lim' a o r := by
  induction h with
  | few a o h => exact .inr (.few a o h)
  | no a o h e h1 => exact (h1.more hle).imp id (fun k => .no a o h e k)
  | last a o h h1 a1 o1 h2 =>
    rcases h2.more hle with k | k
    · cases k
    · exact .inr (.last a o h h1 a1 o1 k)
  | more a o h h1 a1 o1 h2 r h3 ih =>
    rcases h2.more hle with k | k
    · cases k
    · exact ih.imp id (fun j => .more a o h h1 a1 o1 k r j)
variable {K : Nat}

end

end Go.Proofs.YtoladolgmeanhaaGreat

/- inflate, plainly: the chapter's examples, and each error. -/
namespace Go.Proofs.YtoladolgmeanhaaGreat

theorem sy_of {ls l : List Nat} {a x s : Nat} (hc : chk ls = 0) (hx : x < ls.length) (h1 : 1 ≤ s) (hs : lq ls x = s) (hb : nb l a s = cd (lq ls) ls.length x)
    (hn : ∀ t, t < s → 1 ≤ t → ∀ i, i < ls.length → ¬ (lq ls i = t ∧ nb l a t = cd (lq ls) ls.length i)) (hl : a + s ≤ 8 * l.length) : Sy ls l a x 0 s := by
  obtain ⟨F, L, hF, hM⟩ := told_of_chk hc
  have h15 := (chk_zero hc).2.1 x hx
  have hL : lq ls x ≤ L := hM.ge x hx ⟨by omega, .inl h15⟩
  refine ⟨F, L, hF, hM, ⟨fun t t1 t2 => ?_, ⟨by omega, hl⟩, .inl ⟨rfl, h1, ?_⟩⟩⟩
  · cases e : F (bt l a t, t) with
    | none => rfl
    | some i =>
      obtain ⟨i1, i2, i3⟩ := hF.out _ _ e
      simp only [Prod.mk.injEq] at i3
      exact absurd ⟨i3.2.symm, i3.1⟩ (hn t t2 t1 i i1)
  · have := hF.has x hx ⟨by omega, .inl h15⟩
    rw [hs] at this
    rw [show bt l a s = cd (lq ls) ls.length x from hb]
    exact this
end Go.Proofs.YtoladolgmeanhaaGreat

/- inflate, plainly: streams that are laid with one thing wrong in their own codes. -/
namespace Go.Proofs.YtoladolgmeanhaaGreat

def w6 : List Nat := [5, 0, 146, 0]
def w7 : List Nat := [5, 0, 2, 0]
def w8 : List Nat := [5, 0, 128, 192, 223, 31]
def w9 : List Nat := [5, 0, 128, 192, 95, 27]
def w10 : List Nat := [5, 0, 128, 32]
end Go.Proofs.YtoladolgmeanhaaGreat

/- Codes as numbers one behind the other (plain; nothing of the document's own answers): no code begins with another one, and lengths that make a code of all rows leave no gap. -/
namespace Go.Proofs.YtoladolgmeanhaaGreat

theorem trn_acc : ∀ n r x, trn n r x = r * 2 ^ n + trn n 0 x
  | 0, r, x => by simp [trn]
  | n + 1, r, x => by
    rw [trn, trn, trn_acc n (r * 2 + x % 2), trn_acc n (0 * 2 + x % 2), Nat.pow_succ, Nat.add_mul, Nat.zero_mul, Nat.zero_add, Nat.mul_assoc r, Nat.mul_comm 2, Nat.add_assoc]
def nu (f : Nat → Nat) (N i : Nat) : Nat := nx f N (f i - 1) i
theorem nu_of {f : Nat → Nat} {N n i : Nat} (h : f i = n + 1) : nu f N i = nx f N n i := by unfold nu; rw [h, Nat.add_sub_cancel]
theorem nxz_skip {f : Nat → Nat} {N n k : Nat} (h : f k ≠ n + 1) : nx f N n (k + 1) = nx f N n k := by unfold nx; rw [cn_succ, if_neg h]; omega
theorem nxz_hand {f : Nat → Nat} {N n k : Nat} (h : f k = n + 1) : nx f N n (k + 1) = nx f N n k + 1 := by unfold nx; rw [cn_succ, if_pos h]; omega
theorem nxz_next (f : Nat → Nat) (N n : Nat) : nx f N (n + 1) 0 = nx f N n N * 2 := by
  unfold nx
  rw [en]
  simp [cn, sm]
structure Tiled (f : Nat → Nat) (N n k : Nat) : Prop where
  below : ∀ i, i < N → Tld f n k i → (nu f N i + 1) * 2 ^ (15 - f i) ≤ nx f N n k * 2 ^ (14 - n)
  full : ∀ p, p < nx f N n k * 2 ^ (14 - n) → ∃ i, i < N ∧ Tld f n k i ∧ nu f N i * 2 ^ (15 - f i) ≤ p ∧ p < (nu f N i + 1) * 2 ^ (15 - f i)
theorem Tiled.start (f : Nat → Nat) (N : Nat) : Tiled f N 0 0 := by
  have h : nx f N 0 0 = 0 := by simp [nx, en, cn, sm]
  refine ⟨fun i _ ht => ?_, fun p hp => ?_⟩
  · unfold Tld at ht; omega
  · rw [h, Nat.zero_mul] at hp; omega
theorem Tiled.skip {f : Nat → Nat} {N n k : Nat} (h : Tiled f N n k) (hk : f k ≠ n + 1) : Tiled f N n (k + 1) := by
  refine ⟨fun i hi ht => ?_, fun p hp => ?_⟩
  · rw [nxz_skip hk]; exact h.below i hi ((Tld.skip hk).2 ht)
  · rw [nxz_skip hk] at hp
    obtain ⟨i, a, b, c⟩ := h.full p hp
    exact ⟨i, a, (Tld.skip hk).1 b, c⟩
theorem Tiled.hand {f : Nat → Nat} {N n k : Nat} (h : Tiled f N n k) (hkN : k < N) (hk : f k = n + 1) : Tiled f N n (k + 1) := by
  have e1 : 15 - f k = 14 - n := by omega
  have e2 := nu_of (N := N) hk
  refine ⟨fun i hi ht => ?_, fun p hp => ?_⟩
  · rw [nxz_hand hk]
    rcases (Tld.hand hk).1 ht with h1 | rfl
    · refine Nat.le_trans (h.below i hi h1) (Nat.mul_le_mul_right _ (by omega))
    · rw [e1, e2]; exact Nat.le_refl _
  · rw [nxz_hand hk] at hp
    rcases Nat.lt_or_ge p (nx f N n k * 2 ^ (14 - n)) with h1 | h1
    · obtain ⟨i, a, b, c⟩ := h.full p h1
      exact ⟨i, a, (Tld.hand hk).2 (.inl b), c⟩
    · exact ⟨k, hkN, (Tld.hand hk).2 (.inr rfl), by rw [e1, e2]; exact h1, by rw [e1, e2]; exact hp⟩
theorem Tiled.next {f : Nat → Nat} {N n : Nat} (h : Tiled f N n N) (hn : n < 14) : Tiled f N (n + 1) 0 := by
  have e : nx f N (n + 1) 0 * 2 ^ (14 - (n + 1)) = nx f N n N * 2 ^ (14 - n) := by
    rw [nxz_next, Nat.mul_assoc, show 14 - n = (14 - (n + 1)) + 1 by omega, Nat.pow_succ, Nat.mul_comm 2]
  refine ⟨fun i hi ht => ?_, fun p hp => ?_⟩
  · rw [e]; exact h.below i hi ((Tld.next hi).2 ht)
  · rw [e] at hp
    obtain ⟨i, a, b, c⟩ := h.full p hp
    exact ⟨i, a, (Tld.next a).1 b, c⟩
theorem tiled_row {f : Nat → Nat} {N n : Nat} (h : Tiled f N n 0) : ∀ k, k ≤ N → Tiled f N n k
  | 0, _ => h
  | k + 1, hk => by
    by_cases e : f k = n + 1
    · exact (tiled_row h k (by omega)).hand (by omega) e
    · exact (tiled_row h k (by omega)).skip e
theorem tiled_start (f : Nat → Nat) (N : Nat) : ∀ n, n ≤ 14 → Tiled f N n 0
  | 0, _ => Tiled.start f N
  | n + 1, hn => (tiled_row (tiled_start f N n (by omega)) N (Nat.le_refl _)).next (by omega)
theorem tiled_all (f : Nat → Nat) (N : Nat) {n k : Nat} (hn : n ≤ 14) (hk : k ≤ N) : Tiled f N n k := tiled_row (tiled_start f N n hn) k hk
theorem pow_split {a b : Nat} (h : a ≤ b) (hb : b ≤ 15) : 2 ^ (15 - a) = 2 ^ (b - a) * 2 ^ (15 - b) := by
  rw [← Nat.pow_add, show b - a + (15 - b) = 15 - a by omega]
theorem nu_apart {f : Nat → Nat} {N i j : Nat} (hi : i < N) (hj : j < N) (h0 : 0 < f j) (hle : f j ≤ f i) (h15 : f i ≤ 15) (hne : i ≠ j) : nu f N i / 2 ^ (f i - f j) ≠ nu f N j := by
  have key : ∀ i j, i < N → j < N → 0 < f j → f j ≤ f i → f i ≤ 15 → (f j < f i ∨ j < i) → (nu f N j + 1) * 2 ^ (f i - f j) ≤ nu f N i := fun i j hi hj h0 hle h15 hlt => by
    obtain ⟨n, hn⟩ : ∃ n, f i = n + 1 := ⟨f i - 1, by omega⟩
    have h1 := (tiled_all f N (n := n) (k := i) (by omega) (by omega)).below j hj (by unfold Tld; omega)
    rw [← nu_of hn, pow_split hle h15, ← Nat.mul_assoc, show 14 - n = 15 - f i by omega] at h1
    exact Nat.le_of_mul_le_mul_right h1 (Nat.two_pow_pos _)
  by_cases hlt : f j < f i ∨ j < i
  · have h1 := key i j hi hj h0 hle h15 hlt
    have h2 : nu f N j + 1 ≤ nu f N i / 2 ^ (f i - f j) := (Nat.le_div_iff_mul_le (Nat.two_pow_pos _)).2 h1
    omega
  · have e : f i = f j := by omega
    have h1 := key j i hj hi (by omega) (by omega) (by omega) (.inr (by omega))
    rw [e, Nat.sub_self, Nat.pow_zero] at *
    omega
theorem nu_fits {f : Nat → Nat} {N i : Nat} (hr : room N 15 f ≤ 32768) (hi : i < N) (h0 : 0 < f i) (h15 : f i ≤ 15) : nu f N i < 2 ^ f i := by
  obtain ⟨n, hn⟩ : ∃ n, f i = n + 1 := ⟨f i - 1, by omega⟩
  rw [nu_of hn, hn]
  exact nx_fits hr (by omega) hi hn
theorem trn_low (n x : Nat) : trn n 0 x < 2 ^ n := by
  have := trn_lt n 0 x
  rwa [Nat.zero_add, Nat.one_mul] at this
theorem trn_mod : ∀ n t x, t ≤ n → trn n 0 x % 2 ^ t = trn t 0 (x / 2 ^ (n - t))
  | 0, t, x, h => by
    obtain rfl : t = 0 := by omega
    simp [trn]
  | n + 1, t, x, h => by
    by_cases e : t = n + 1
    · subst e
      rw [Nat.sub_self, Nat.pow_zero, Nat.div_one, Nat.mod_eq_of_lt (trn_low _ _)]
    · have h1 : t ≤ n := by omega
      rw [trn, trn_acc, Nat.zero_mul, Nat.zero_add, show x % 2 * 2 ^ n = 2 ^ t * (x % 2 * 2 ^ (n - t)) by
        rw [Nat.mul_comm (2 ^ t), Nat.mul_assoc, ← Nat.pow_add, Nat.sub_add_cancel h1], Nat.mul_add_mod, trn_mod n t _ h1, Nat.div_div_eq_div_mul, ← Nat.pow_succ', show (n - t).succ = n + 1 - t by omega]
theorem cdn_apart {ls : List Nat} (hc : chk ls = 0) {i k : Nat} (hi : i < ls.length) (hk : k < ls.length) (h0 : 0 < lq ls i) (hle : lq ls i ≤ lq ls k) (hne : i ≠ k) : cd (lq ls) ls.length k % 2 ^ lq ls i ≠ cd (lq ls) ls.length i := by
  intro h
  have hr := room_of_chk hc
  have h15 := (chk_zero hc).2.1
  have f1 := nu_fits hr hi h0 (h15 i hi)
  have f2 := nu_fits hr hk (by omega) (h15 k hk)
  unfold cd at h
  rw [trn_mod _ _ _ hle] at h
  refine nu_apart hk hi h0 hle (h15 k hk) (Ne.symm hne) ?_
  refine (trn_inj _ _ _ _ _ ?_ f1 h).2
  rw [Nat.div_lt_iff_lt_mul (Nat.two_pow_pos _), ← Nat.pow_add, show lq ls i + (lq ls k - lq ls i) = lq ls k by omega]
  exact f2
end Go.Proofs.YtoladolgmeanhaaGreat
