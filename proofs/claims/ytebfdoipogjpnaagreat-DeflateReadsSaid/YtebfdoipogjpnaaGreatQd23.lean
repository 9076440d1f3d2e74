/- Several texts in one, each with its own head. -/
import Derived.Test.YtebfdoipogjpnaaGreatQd22
/- inflate, plainly: each step has one answer; what the example tells. -/
namespace Go.Proofs.YtebfdoipogjpnaaGreat

/-- There is a table of every code whose codes are apart. -/
theorem told_ex {f : Nat → Nat} {N : Nat} (ha : Apt f N) : ∀ n, (∃ F L, ToldF f N n 0 F ∧ ToldM f N n 0 L) ∧ ∀ k, k ≤ N → ∃ F L, ToldF f N n k F ∧ ToldM f N n k L := by
  have step : ∀ n, (∃ F L, ToldF f N n 0 F ∧ ToldM f N n 0 L) → ∀ k, k ≤ N → ∃ F L, ToldF f N n k F ∧ ToldM f N n k L := fun n h0 k => by
    induction k with
    | zero => exact fun _ => h0
    | succ k ih =>
      intro hk
      obtain ⟨F, L, h1, h2⟩ := ih (by omega)
      by_cases e : f k = n + 1
      · exact ⟨_, _, h1.hand ha (by omega) e, h2.hand (by omega) e⟩
      · exact ⟨F, L, h1.congr (fun i _ => Tld.skip e), h2.congr (fun i _ => Tld.skip e)⟩
  intro n
  induction n with
  | zero =>
    have h0 : ∃ F L, ToldF f N 0 0 F ∧ ToldM f N 0 0 L := ⟨fun _ => none, 0, ⟨fun i hi ht => by unfold Tld at ht; omega, fun q x hx => by cases hx⟩, ⟨fun i hi ht => by unfold Tld at ht; omega, .inl rfl⟩⟩
    exact ⟨h0, step 0 h0⟩
  | succ n ih =>
    obtain ⟨F, L, h1, h2⟩ := ih.2 N (Nat.le_refl _)
    have h0 : ∃ F L, ToldF f N (n + 1) 0 F ∧ ToldM f N (n + 1) 0 L := ⟨F, L, h1.congr (fun i hi => Tld.next hi), h2.congr (fun i hi => Tld.next hi)⟩
    exact ⟨h0, step (n + 1) h0⟩
theorem told_of_chk {ls : List Nat} (h : chk ls = 0) : ∃ F L, ToldF (lq ls) ls.length 15 0 F ∧ ToldM (lq ls) ls.length 15 0 L := (told_ex (apt_chk h) 15).1

/-- The fixed code's lengths, told at once. -/
def fixG (i : Nat) : Nat := if i < 144 then 8 else if i < 256 then 9 else if i < 280 then 7 else if i < 288 then 8 else 0
theorem fixA_at : ∀ i, i < 288 → lq fixA i = fixG i := by decide +kernel
theorem fixA_lq : lq fixA = fixG := by
  funext i
  by_cases h : i < 288
  · exact fixA_at i h
  · have h1 : lq fixA i = 0 := by
      unfold lq
      rw [List.getD_eq_getElem?_getD, List.getElem?_eq_none (by rw [fixA_len]; omega)]
      rfl
    rw [h1]; unfold fixG
    rw [if_neg (by omega), if_neg (by omega), if_neg (by omega), if_neg h]

theorem fixG_le : ∀ x, x < 288 → fixG x ≤ 9 ∧ 0 < fixG x := by decide +kernel

/-- A symbol of the fixed code, read where its bits stand. -/
theorem sy_fix {l : List Nat} {a x s : Nat} (hx : x < 288) (h1 : 1 ≤ s) (hs : fixG x = s) (hb : nb l a s = cd fixG 288 x) (hn : ∀ t, t < s → 1 ≤ t → ∀ i, i < 288 → ¬ (fixG i = t ∧ nb l a t = cd fixG 288 i)) (hl : a + s ≤ 8 * l.length) : Sy fixA l a x 0 s := by
  obtain ⟨F, L, hF, hM⟩ := told_of_chk fixA_chk
  refine ⟨F, L, hF, hM, ?_⟩
  rw [fixA_lq, fixA_len] at hF hM
  have h9 := fixG_le x hx
  have hL : fixG x ≤ L := hM.ge x hx ⟨h9.2, .inl (by omega)⟩
  refine ⟨fun t t1 t2 => ?_, ⟨by omega, hl⟩, .inl ⟨rfl, h1, ?_⟩⟩
  · cases e : F (bt l a t, t) with
    | none => rfl
    | some i =>
      obtain ⟨i1, i2, i3⟩ := hF.out _ _ e
      simp only [Prod.mk.injEq] at i3
      exact absurd ⟨i3.2.symm, i3.1⟩ (hn t t2 t1 i i1)
  · have := hF.has x hx ⟨h9.2, .inl (by omega)⟩
    rw [hs] at this
    rw [show bt l a s = cd fixG 288 x from hb]
    exact this

/-- The example: the bytes of abc. -/
def abcL : List Nat := [75, 76, 74, 6, 0, 9]
theorem abc_a : Sy fixA abcL 3 97 0 8 := sy_fix (by decide) (by decide) (by decide) (by decide +kernel) (by decide +kernel) (by decide)
theorem abc_b : Sy fixA abcL 11 98 0 8 := sy_fix (by decide) (by decide) (by decide) (by decide +kernel) (by decide +kernel) (by decide)
theorem abc_c : Sy fixA abcL 19 99 0 8 := sy_fix (by decide) (by decide) (by decide) (by decide +kernel) (by decide +kernel) (by decide)
theorem abc_e : Sy fixA abcL 27 256 0 7 := sy_fix (by decide) (by decide) (by decide) (by decide +kernel) (by decide +kernel) (by decide)
theorem abc_runs : InfBl abcL 10 0 [] (.go 34 [97, 98, 99]) :=
  .last 0 [] (by decide) (by decide +kernel) 34 _ (.fixed (by decide) (by decide +kernel) _
    (.more 3 11 [] [97] _ (.byte 97 8 abc_a (by decide) (by decide)) (.more 11 19 [97] [97, 98] _ (.byte 98 8 abc_b (by decide) (by decide)) (.more 19 27 [97, 98] [97, 98, 99] _ (.byte 99 8 abc_c (by decide) (by decide)) (.fin 27 34 _ (.fin 7 abc_e))))))

/-- What a repetition comes to, told by what is read. -/
theorem InfRp.view {D l : List Nat} {lim a x : Nat} {o : List Nat} {r : InfSt} (h : InfRp D l lim a x o r) :
    (285 < x ∧ r = .no 80) ∨ (x ≤ 285 ∧ 8 * l.length < a + lnBits x ∧ r = .no 50) ∨ (x ≤ 285 ∧ a + lnBits x ≤ 8 * l.length ∧ ∃ y e t, Sy D l (a + lnBits x) y e t ∧
      ((e ≠ 0 ∧ r = .no e) ∨ (e = 0 ∧ 29 < y ∧ r = .no 80) ∨ (e = 0 ∧ y ≤ 29 ∧ 8 * l.length < a + lnBits x + t + dsBits y ∧ r = .no 50) ∨
       (e = 0 ∧ y ≤ 29 ∧ a + lnBits x + t + dsBits y ≤ 8 * l.length ∧
        ((o.length < dsBase y + nb l (a + lnBits x + t) (dsBits y) ∧ r = .no 70) ∨
         (dsBase y + nb l (a + lnBits x + t) (dsBits y) ≤ o.length ∧ lim < o.length + (lnBase x + nb l a (lnBits x)) ∧ r = .no 81) ∨
         (dsBase y + nb l (a + lnBits x + t) (dsBits y) ≤ o.length ∧ o.length + (lnBase x + nb l a (lnBits x)) ≤ lim ∧
          r = .go (a + lnBits x + t + dsBits y) (ext (dsBase y + nb l (a + lnBits x + t) (dsBits y)) (lnBase x + nb l a (lnBits x)) o)))))) := by
  cases h with
  | far h => exact .inl ⟨h, rfl⟩
  | few h h1 => exact .inr (.inl ⟨h, h1, rfl⟩)
  | bad h h1 y t e h2 h3 => exact .inr (.inr ⟨h, h1, y, e, t, h2, .inl ⟨h3, rfl⟩⟩)
  | wide h h1 y t h2 h3 => exact .inr (.inr ⟨h, h1, y, 0, t, h2, .inr (.inl ⟨rfl, h3, rfl⟩)⟩)
  | few2 h h1 y t h2 h3 h4 => exact .inr (.inr ⟨h, h1, y, 0, t, h2, .inr (.inr (.inl ⟨rfl, h3, h4, rfl⟩))⟩)
  | dist h h1 y t h2 h3 h4 h5 => exact .inr (.inr ⟨h, h1, y, 0, t, h2, .inr (.inr (.inr ⟨rfl, h3, h4, .inl ⟨h5, rfl⟩⟩))⟩)
  | over h h1 y t h2 h3 h4 h5 h6 => exact .inr (.inr ⟨h, h1, y, 0, t, h2, .inr (.inr (.inr ⟨rfl, h3, h4, .inr (.inl ⟨h5, h6, rfl⟩)⟩))⟩)
  | done h h1 y t h2 h3 h4 h5 h6 => exact .inr (.inr ⟨h, h1, y, 0, t, h2, .inr (.inr (.inr ⟨rfl, h3, h4, .inr (.inr ⟨h5, h6, rfl⟩)⟩))⟩)
theorem InfRp.det {D l : List Nat} {lim a x : Nat} {o : List Nat} {r r' : InfSt} (h : InfRp D l lim a x o r) (h' : InfRp D l lim a x o r') : r = r' := by
  rcases h.view with ⟨p1, rfl⟩ | ⟨p1, p2, rfl⟩ | ⟨p1, p2, y, e, t, p3, p⟩ <;> rcases h'.view with ⟨q1, rfl⟩ | ⟨q1, q2, rfl⟩ | ⟨q1, q2, y', e', t', q3, q⟩ <;> first | rfl | (exfalso; omega) | skip
  obtain ⟨rfl, rfl, rfl⟩ := p3.only q3
  rcases p with ⟨p4, rfl⟩ | ⟨p4, p5, rfl⟩ | ⟨p4, p5, p6, rfl⟩ | ⟨p4, p5, p6, p7⟩ <;> rcases q with ⟨q4, rfl⟩ | ⟨q4, q5, rfl⟩ | ⟨q4, q5, q6, rfl⟩ | ⟨q4, q5, q6, q7⟩ <;> first | rfl | (exfalso; omega) | skip
  rcases p7 with ⟨p7, rfl⟩ | ⟨p7, p8, rfl⟩ | ⟨p7, p8, rfl⟩ <;> rcases q7 with ⟨q7, rfl⟩ | ⟨q7, q8, rfl⟩ | ⟨q7, q8, rfl⟩ <;> first | rfl | (exfalso; omega)

theorem InfTk.view {A D l : List Nat} {lim a : Nat} {o : List Nat} {r : InfSt} (h : InfTk A D l lim a o r) : ∃ x e s, Sy A l a x e s ∧
    ((e ≠ 0 ∧ r = .no e) ∨ (e = 0 ∧ x = 256 ∧ r = .fin (a + s)) ∨ (e = 0 ∧ x < 256 ∧ o.length < lim ∧ r = .go (a + s) (o ++ [x])) ∨ (e = 0 ∧ x < 256 ∧ lim ≤ o.length ∧ r = .no 81) ∨ (e = 0 ∧ 256 < x ∧ InfRp D l lim (a + s) x o r)) := by
  cases h with
  | bad x s e h h1 => exact ⟨x, e, s, h, .inl ⟨h1, rfl⟩⟩
  | fin s h => exact ⟨256, 0, s, h, .inr (.inl ⟨rfl, rfl, rfl⟩)⟩
  | byte x s h h1 h2 => exact ⟨x, 0, s, h, .inr (.inr (.inl ⟨rfl, h1, h2, rfl⟩))⟩
  | full x s h h1 h2 => exact ⟨x, 0, s, h, .inr (.inr (.inr (.inl ⟨rfl, h1, h2, rfl⟩)))⟩
  | rep x s r h h1 h2 => exact ⟨x, 0, s, h, .inr (.inr (.inr (.inr ⟨rfl, h1, h2⟩)))⟩
theorem InfTk.det {A D l : List Nat} {lim a : Nat} {o : List Nat} {r r' : InfSt} (h : InfTk A D l lim a o r) (h' : InfTk A D l lim a o r') : r = r' := by
  obtain ⟨x, e, s, p, p'⟩ := h.view
  obtain ⟨x', e', s', q, q'⟩ := h'.view
  obtain ⟨rfl, rfl, rfl⟩ := p.only q
  rcases p' with ⟨p1, rfl⟩ | ⟨p1, p2, rfl⟩ | ⟨p1, p2, p3, rfl⟩ | ⟨p1, p2, p3, rfl⟩ | ⟨p1, p2, p3⟩ <;> rcases q' with ⟨q1, rfl⟩ | ⟨q1, q2, rfl⟩ | ⟨q1, q2, q3, rfl⟩ | ⟨q1, q2, q3, rfl⟩ | ⟨q1, q2, q3⟩ <;> first | rfl | (exfalso; omega) | exact p3.det q3
theorem InfToks.det {A D l : List Nat} {lim a : Nat} {o : List Nat} {r : InfSt} (h : InfToks A D l lim a o r) : ∀ r', InfToks A D l lim a o r' → r = r' := by
  induction h with
  | fin a a' o h =>
    intro r' h'
    cases h' with
    | fin _ a2 _ h2 => have := h.det h2; injection this with this; rw [this]
    | no _ _ e h2 => have := h.det h2; cases this
    | more _ a2 _ o2 _ h2 h3 => have := h.det h2; cases this
  | no a o e h =>
    intro r' h'
    cases h' with
    | fin _ a2 _ h2 => have := h.det h2; cases this
    | no _ _ e h2 => have := h.det h2; injection this with this; rw [this]
    | more _ a2 _ o2 _ h2 h3 => have := h.det h2; cases this
  | more a a' o o' r h h1 ih =>
    intro r' h'
    cases h' with
    | fin _ a2 _ h2 => have := h.det h2; cases this
    | no _ _ e h2 => have := h.det h2; cases this
    | more _ a2 _ o2 _ h2 h3 =>
      have := h.det h2
      injection this with e1 e2
      subst e1; subst e2
      exact ih r' h3
theorem InfSd.det {l : List Nat} {lim a : Nat} {o : List Nat} {r r' : InfSt} (h : InfSd l lim a o r) (h' : InfSd l lim a o r') : r = r' := by
  cases h <;> cases h' <;> first | rfl | (exfalso; omega)
theorem SvC.only {x k c v k' c' v' : Nat} {ls : List Nat} (h : SvC x k c v ls) (h' : SvC x k' c' v' ls) : k = k' ∧ c = c' ∧ v = v' := by
  unfold SvC at h h'
  omega
theorem InfSv.det {C l : List Nat} {n a : Nat} {ls : List Nat} {r r' : InfSt} (h : InfSv C l n a ls r) (h' : InfSv C l n a ls r') : r = r' := by
  cases h with
  | bad x s e h h1 =>
    cases h' with
    | bad _ _ _ k k1 => obtain ⟨rfl, rfl, rfl⟩ := h.only k; rfl
    | first _ k k1 => obtain ⟨rfl, rfl, rfl⟩ := h.only k; exact absurd rfl h1
    | few _ _ _ _ _ k => obtain ⟨rfl, rfl, rfl⟩ := h.only k; exact absurd rfl h1
    | many _ _ _ _ _ k => obtain ⟨rfl, rfl, rfl⟩ := h.only k; exact absurd rfl h1
    | go _ _ _ _ _ k => obtain ⟨rfl, rfl, rfl⟩ := h.only k; exact absurd rfl h1
  | first s h h1 =>
    cases h' with
    | bad _ _ _ k k1 => obtain ⟨rfl, rfl, rfl⟩ := h.only k; exact absurd rfl k1
    | first _ k k1 => rfl
    | few _ _ _ _ _ k k1 => obtain ⟨rfl, -, rfl⟩ := h.only k; exfalso; omega
    | many _ _ _ _ _ k k1 => obtain ⟨rfl, -, rfl⟩ := h.only k; exfalso; omega
    | go _ _ _ _ _ k k1 => obtain ⟨rfl, -, rfl⟩ := h.only k; exfalso; omega
  | few x s k c v h h1 h2 =>
    cases h' with
    | bad _ _ _ k k1 => obtain ⟨rfl, rfl, rfl⟩ := h.only k; exact absurd rfl k1
    | first _ k k1 => obtain ⟨rfl, -, rfl⟩ := h.only k; exfalso; omega
    | few _ _ _ _ _ k k1 => rfl
    | many _ _ _ _ _ k k1 k2 => obtain ⟨rfl, -, rfl⟩ := h.only k; obtain ⟨rfl, rfl, rfl⟩ := SvC.only h1 k1; exfalso; omega
    | go _ _ _ _ _ k k1 k2 => obtain ⟨rfl, -, rfl⟩ := h.only k; obtain ⟨rfl, rfl, rfl⟩ := SvC.only h1 k1; exfalso; omega
  | many x s k c v h h1 h2 h3 =>
    cases h' with
    | bad _ _ _ k k1 => obtain ⟨rfl, rfl, rfl⟩ := h.only k; exact absurd rfl k1
    | first _ k k1 => rfl
    | few _ _ _ _ _ k k1 k2 => obtain ⟨rfl, -, rfl⟩ := h.only k; obtain ⟨rfl, rfl, rfl⟩ := SvC.only h1 k1; exfalso; omega
    | many _ _ _ _ _ k k1 k2 => rfl
    | go _ _ _ _ _ k k1 k2 k3 => obtain ⟨rfl, -, rfl⟩ := h.only k; obtain ⟨rfl, rfl, rfl⟩ := SvC.only h1 k1; exfalso; omega
  | go x s k c v h h1 h2 h3 =>
    cases h' with
    | bad _ _ _ k k1 => obtain ⟨rfl, rfl, rfl⟩ := h.only k; exact absurd rfl k1
    | first _ k k1 => obtain ⟨rfl, -, rfl⟩ := h.only k; exfalso; omega
    | few _ _ _ _ _ k k1 k2 => obtain ⟨rfl, -, rfl⟩ := h.only k; obtain ⟨rfl, rfl, rfl⟩ := SvC.only h1 k1; exfalso; omega
    | many _ _ _ _ _ k k1 k2 k3 => obtain ⟨rfl, -, rfl⟩ := h.only k; obtain ⟨rfl, rfl, rfl⟩ := SvC.only h1 k1; exfalso; omega
    | go _ _ _ _ _ k k1 k2 k3 => obtain ⟨rfl, -, rfl⟩ := h.only k; obtain ⟨rfl, rfl, rfl⟩ := SvC.only h1 k1; rfl
theorem InfLs.det {C l : List Nat} {n a : Nat} {ls : List Nat} {r : InfSt} (h : InfLs C l n a ls r) : ∀ r', InfLs C l n a ls r' → r = r' := by
  induction h with
  | fin a ls h =>
    intro r' h'
    cases h' with
    | fin => rfl
    | no => exfalso; omega
    | more => exfalso; omega
  | no a ls e h0 h =>
    intro r' h'
    cases h' with
    | fin => exfalso; omega
    | no _ _ e' _ h2 => have := h.det h2; injection this with this; rw [this]
    | more _ a2 _ o2 _ _ h2 h3 => have := h.det h2; cases this
  | more a a' ls ls' r h0 h h1 ih =>
    intro r' h'
    cases h' with
    | fin => exfalso; omega
    | no _ _ e' _ h2 => have := h.det h2; cases this
    | more _ a2 _ o2 _ _ h2 h3 =>
      have := h.det h2
      injection this with e1 e2
      subst e1; subst e2
      exact ih r' h3
theorem InfDy.det {l : List Nat} {a n n' : Nat} {r r' : InfSt} (h : InfDy l a n r) (h' : InfDy l a n' r') : n = n' ∧ r = r' := by
  cases h with
  | few h => cases h' <;> first | exact ⟨rfl, rfl⟩ | (exfalso; omega)
  | many h h1 => cases h' <;> first | exact ⟨rfl, rfl⟩ | (exfalso; omega)
  | few2 h h1 h2 => cases h' <;> first | exact ⟨rfl, rfl⟩ | (exfalso; omega)
  | code h h1 h2 h3 => cases h' <;> first | exact ⟨rfl, rfl⟩ | (exfalso; omega) | (exact absurd (by assumption) h3)
  | lens h h1 h2 h3 e h4 =>
    cases h' with
    | few => exfalso; omega
    | many => exfalso; omega
    | few2 => exfalso; omega
    | code _ _ _ k => exact absurd h3 k
    | lens _ _ _ _ e' k4 => have := h4.det _ k4; injection this with this; rw [this]; exact ⟨rfl, rfl⟩
    | last _ _ _ _ a' ls k4 => have := h4.det _ k4; cases this
    | done _ _ _ _ a' ls k4 => have := h4.det _ k4; cases this
  | last h h1 h2 h3 a' ls h4 e h5 =>
    cases h' with
    | few => exfalso; omega
    | many => exfalso; omega
    | few2 => exfalso; omega
    | code _ _ _ k => exact absurd h3 k
    | lens _ _ _ _ e' k4 => have := h4.det _ k4; cases this
    | last _ _ _ _ a2 ls2 k4 e2 k5 =>
      have := h4.det _ k4
      injection this with e1 e3
      subst e1; subst e3
      rcases h5 with ⟨p, rfl⟩ | ⟨p, p2, rfl⟩ | ⟨p, p2, p3, rfl⟩ <;> rcases k5 with ⟨q, rfl⟩ | ⟨q, q2, rfl⟩ | ⟨q, q2, q3, rfl⟩ <;> first | exact ⟨rfl, rfl⟩ | (exfalso; omega)
    | done _ _ _ _ a2 ls2 k4 k5 =>
      have := h4.det _ k4
      injection this with e1 e3
      subst e1; subst e3
      exfalso; omega
  | done h h1 h2 h3 a' ls h4 h5 =>
    cases h' with
    | few => exfalso; omega
    | many => exfalso; omega
    | few2 => exfalso; omega
    | code _ _ _ k => exact absurd h3 k
    | lens _ _ _ _ e' k4 => have := h4.det _ k4; cases this
    | last _ _ _ _ a2 ls2 k4 e2 k5 =>
      have := h4.det _ k4
      injection this with e1 e3
      subst e1; subst e3
      exfalso; omega
    | done _ _ _ _ a2 ls2 k4 k5 =>
      have := h4.det _ k4
      injection this with e1 e3
      subst e1; subst e3
      exact ⟨rfl, rfl⟩
theorem InfBk.det {l : List Nat} {lim a : Nat} {o : List Nat} {r r' : InfSt} (h : InfBk l lim a o r) (h' : InfBk l lim a o r') : r = r' := by
  cases h with
  | few h => cases h' <;> first | rfl | (exfalso; omega)
  | stored h h1 r h2 =>
    cases h' with
    | stored _ _ _ k2 => exact h2.det k2
    | _ => exfalso; omega
  | fixed h h1 r h2 =>
    cases h' with
    | fixed _ _ _ k2 => exact h2.det _ k2
    | _ => exfalso; omega
  | bad h h1 e h2 =>
    cases h' with
    | bad _ _ _ k2 => have := (h2.det k2).2; exact this
    | dyn _ _ n a' ls k2 => have := (h2.det k2).2; cases this
    | _ => exfalso; omega
  | dyn h h1 n a' ls h2 r h3 =>
    cases h' with
    | bad _ _ _ k2 => have := (h2.det k2).2; cases this
    | dyn _ _ n2 a2 ls2 k2 _ k3 =>
      obtain ⟨e0, e⟩ := h2.det k2
      injection e with e1 e2
      subst e0; subst e1; subst e2
      exact h3.det _ k3
    | _ => exfalso; omega
  | unknown h h1 => cases h' <;> first | rfl | (exfalso; omega)
theorem InfBl.det {l : List Nat} {lim a : Nat} {o : List Nat} {r : InfSt} (h : InfBl l lim a o r) : ∀ r', InfBl l lim a o r' → r = r' := by
  induction h with
  | few a o h => intro r' h'; cases h' <;> first | rfl | (exfalso; omega)
  | no a o h e h1 =>
    intro r' h'
    cases h' with
    | few => exfalso; omega
    | no _ _ _ e' k => have := h1.det k; exact this
    | last _ _ _ _ a' o' k => have := h1.det k; cases this
    | more _ _ _ _ a' o' k => have := h1.det k; cases this
  | last a o h h1 a' o' h2 =>
    intro r' h'
    cases h' with
    | few => exfalso; omega
    | no _ _ _ e' k => have := h2.det k; cases this
    | last _ _ _ _ a2 o2 k => exact h2.det k
    | more _ _ _ k1 => exact absurd h1 k1
  | more a o h h1 a' o' h2 r h3 ih =>
    intro r' h'
    cases h' with
    | few => exfalso; omega
    | no _ _ _ e' k => have := h2.det k; cases this
    | last _ _ _ k1 => exact absurd k1 h1
    | more _ _ _ _ a2 o2 k _ k3 =>
      have := h2.det k
      injection this with e1 e2
      subst e1; subst e2
      exact ih r' k3
theorem Infl.det {l : List Nat} {limit : Int} {o o' : List Nat} {k k' : Nat} {e e' : Int} (h : Infl l limit o k e) (h' : Infl l limit o' k' e') : o = o' ∧ k = k' ∧ e = e' := by
  cases h with
  | arg h => cases h' <;> first | exact ⟨rfl, rfl, rfl⟩ | (exfalso; omega)
  | go lim a o h h1 h2 =>
    cases h' with
    | arg => exfalso; omega
    | go lim' a' o' k k1 k2 =>
      obtain rfl : lim = lim' := by omega
      have := h2.det _ k2
      injection this with e1 e2
      subst e1; subst e2
      exact ⟨rfl, rfl, rfl⟩
    | no lim' er k k1 k2 =>
      obtain rfl : lim = lim' := by omega
      have := h2.det _ k2
      cases this
  | no lim er h h1 h2 =>
    cases h' with
    | arg => exfalso; omega
    | go lim' a' o' k k1 k2 =>
      obtain rfl : lim = lim' := by omega
      have := h2.det _ k2
      cases this
    | no lim' er k k1 k2 =>
      obtain rfl : lim = lim' := by omega
      have := h2.det _ k2
      injection this with e1
      subst e1
      exact ⟨rfl, rfl, rfl⟩

theorem abc_infl : Infl abcL 10 [97, 98, 99] 5 0 := .go 10 34 _ rfl (by decide) abc_runs

end Go.Proofs.YtebfdoipogjpnaaGreat

/- inflate, plainly: what a stream tells elsewhere: further on in other bytes, behind other bytes that came, under a greater limit. -/
namespace Go.Proofs.YtebfdoipogjpnaaGreat

theorem numB_app : ∀ a b : List Nat, numB (a ++ b) = numB a + 256 ^ a.length * numB b
  | [], b => by simp [numB]
  | x :: a, b => by
    rw [List.cons_append, numB, numB, numB_app a b, List.length_cons, Nat.pow_succ, Nat.mul_add]
    rw [← Nat.mul_assoc, Nat.mul_comm 256 (256 ^ a.length)]
    omega
theorem p256 (n : Nat) : 256 ^ n = 2 ^ (8 * n) := by rw [Nat.pow_mul]
theorem nb_ext (l m : List Nat) (a k : Nat) (h : a + k ≤ 8 * l.length) : nb (l ++ m) a k = nb l a k := by
  unfold nb
  rw [numB_app, p256, show 8 * l.length = a + (k + (8 * l.length - a - k)) by omega, Nat.pow_add, Nat.pow_add, Nat.mul_assoc, Nat.add_mul_div_left _ _ (Nat.two_pow_pos a), Nat.mul_assoc, Nat.add_mul_mod_self_left]
theorem nb_shift (p l : List Nat) (hp : ∀ b ∈ p, b < 256) (a k : Nat) : nb (p ++ l) (a + 8 * p.length) k = nb l a k := by
  unfold nb
  have h : numB p / 2 ^ (8 * p.length) = 0 := Nat.div_eq_of_lt (by rw [← p256]; exact numB_lt p hp)
  rw [numB_app, p256, Nat.add_comm a, Nat.pow_add, ← Nat.div_div_eq_div_mul, Nat.add_mul_div_left _ _ (Nat.two_pow_pos _), h, Nat.zero_add]

/-- What l tells up to the bit K, l' tells s bits further on. -/
structure Trn (l l' : List Nat) (K s : Nat) : Prop where
  num : ∀ a k, a + k ≤ K → nb l' (a + s) k = nb l a k
  le : K + s ≤ 8 * l'.length
  eight : s % 8 = 0

section
variable {l l' : List Nat} {K s lim lim' : Nat} {q : List Nat}

theorem Trn.sy (T : Trn l l' K s) {ls : List Nat} {a x t : Nat} (h : Sy ls l a x 0 t) (hK : a + t ≤ K) : Sy ls l' (a + s) x 0 t := by
  obtain ⟨F, L, hF, hM, h⟩ := h
  refine ⟨F, L, hF, hM, ⟨fun u u1 u2 => ?_, ⟨h.le.1, by have := T.le; omega⟩, ?_⟩⟩
  · rw [show bt l' (a + s) u = bt l a u from T.num a u (by omega)]
    exact h.no u u1 u2
  · rcases h.ans with ⟨h1, h2, h3⟩ | ⟨h1, -⟩ | ⟨h1, -⟩
    · exact .inl ⟨rfl, h2, by rw [show bt l' (a + s) t = bt l a t from T.num a t hK]; exact h3⟩
    · cases h1
    · cases h1

theorem ext_app (q : List Nat) (d : Nat) : ∀ (n : Nat) (o : List Nat), d ≤ o.length → ext d n (q ++ o) = q ++ ext d n o
  | 0, _, _ => rfl
  | n + 1, o, h => by
    have e : (q ++ o).getD ((q ++ o).length - d) 0 = o.getD (o.length - d) 0 := by
      rw [List.length_append, show q.length + o.length - d = q.length + (o.length - d) by omega]
      rw [List.getD_eq_getElem?_getD, List.getD_eq_getElem?_getD, List.getElem?_append_right (by omega)]
      congr 2; omega
    rw [ext, ext, e, List.append_assoc, ext_app q d n _ (by simp; omega)]

theorem Trn.rp (T : Trn l l' K s) (hlim : lim + q.length ≤ lim') {D : List Nat} {a x a' : Nat} {o o' : List Nat} (h : InfRp D l lim a x o (.go a' o')) (hK : a' ≤ K) : InfRp D l' lim' (a + s) x (q ++ o) (.go (a' + s) (q ++ o')) := by
  rcases h.view with ⟨_, e⟩ | ⟨_, _, e⟩ | ⟨h1, h2, y, er, t, h3, ⟨_, e⟩ | ⟨_, _, e⟩ | ⟨_, _, _, e⟩ | ⟨rfl, h4, h5, ⟨_, e⟩ | ⟨_, _, e⟩ | ⟨h6, h7, e⟩⟩⟩ <;> try (cases e; done)
  injection e with e1 e2
  subst e1; subst e2
  have n1 := T.num a (lnBits x) (by omega)
  have n2 := T.num (a + lnBits x + t) (dsBits y) hK
  have hs := T.sy h3 (by omega)
  have p1 : a + s + lnBits x = a + lnBits x + s := by omega
  have p2 : a + s + lnBits x + t = a + lnBits x + t + s := by omega
  have hle := T.le
  have hl : (q ++ o).length = q.length + o.length := List.length_append
  have hd := InfRp.done (D := D) (l := l') (lim := lim') (a := a + s) (x := x) (o := q ++ o) h1 (by omega) y t (by rw [p1]; exact hs) h4 (by omega) (by rw [p2, n2, hl]; omega) (by rw [n1, hl]; omega)
  refine Eq.mp (congrArg _ ?_) hd
  rw [p2, n1, n2, ext_app q _ _ _ h6]
  congr 1; omega

theorem Trn.tk (T : Trn l l' K s) (hlim : lim + q.length ≤ lim') {A D : List Nat} {a a' : Nat} {o o' : List Nat} (h : InfTk A D l lim a o (.go a' o')) (hK : a' ≤ K) : InfTk A D l' lim' (a + s) (q ++ o) (.go (a' + s) (q ++ o')) := by
  obtain ⟨x, e, t, h1, ⟨_, e1⟩ | ⟨_, _, e1⟩ | ⟨rfl, h2, h3, e1⟩ | ⟨_, _, _, e1⟩ | ⟨rfl, h2, h3⟩⟩ := h.view
  · cases e1
  · cases e1
  · injection e1 with e1 e2
    subst e1; subst e2
    have hd := InfTk.byte (A := A) (D := D) (l := l') (lim := lim') (a := a + s) (o := q ++ o) x t (T.sy h1 hK) h2 (by simp; omega)
    refine Eq.mp (congrArg _ ?_) hd
    rw [List.append_assoc]
    congr 1; omega
  · cases e1
  · have hup := h3.up _ _ rfl
    have hr := T.rp (q := q) hlim h3 hK
    rw [show a + t + s = a + s + t by omega] at hr
    exact .rep x t _ (T.sy h1 (by omega)) h2 hr
theorem Trn.tkf (T : Trn l l' K s) {A D : List Nat} {a a' : Nat} {o : List Nat} (h : InfTk A D l lim a o (.fin a')) (hK : a' ≤ K) : InfTk A D l' lim' (a + s) (q ++ o) (.fin (a' + s)) := by
  cases h with
  | fin t h1 =>
    have hd := InfTk.fin (A := A) (D := D) (l := l') (lim := lim') (a := a + s) (o := q ++ o) t (T.sy h1 hK)
    refine Eq.mp (congrArg _ ?_) hd
    congr 1; omega
  | rep x t r h h1 h2 => cases h2
theorem Trn.toks (T : Trn l l' K s) (hlim : lim + q.length ≤ lim') {A D : List Nat} {a : Nat} {o : List Nat} {r : InfSt} (h : InfToks A D l lim a o r) : ∀ a' o', r = .go a' o' → a' ≤ K → InfToks A D l' lim' (a + s) (q ++ o) (.go (a' + s) (q ++ o')) := by
  induction h with
  | fin a a1 o h =>
    intro a' o' e hK
    injection e with e1 e2
    subst e1; subst e2
    exact .fin _ _ _ (T.tkf h hK)
  | no => intro a' o' e; cases e
  | more a a1 o o1 r h h1 ih =>
    intro a' o' e hK
    have := h1.up a' o' e
    exact .more _ _ _ _ _ (T.tk hlim h (by omega)) (ih a' o' e hK)

theorem alN_shift (a : Nat) (hs : s % 8 = 0) : alN (a + s) = alN a + s := by unfold alN; omega
theorem bys_tr (T : Trn l l' K s) (a : Nat) : ∀ n, a + 8 * n ≤ K → bys l' (a + s) n = bys l a n
  | 0, _ => rfl
  | n + 1, h => by
    rw [bys_succ, bys_succ, bys_tr T a n (by omega), show a + s + 8 * n = a + 8 * n + s by omega, T.num (a + 8 * n) 8 (by omega)]
theorem Trn.sd (T : Trn l l' K s) (hlim : lim + q.length ≤ lim') {a a' : Nat} {o o' : List Nat} (h : InfSd l lim a o (.go a' o')) (hK : a' ≤ K) : InfSd l' lim' (a + s) (q ++ o) (.go (a' + s) (q ++ o')) := by
  have hle := T.le
  have ha := alN_shift (s := s) a T.eight
  cases h with
  | done h1 h2 h3 h4 =>
    have n1 := T.num (alN a) 16 (by omega)
    have n2 := T.num (alN a + 16) 16 (by omega)
    have n3 := bys_tr T (alN a + 32) (nb l (alN a) 16) hK
    have hd := InfSd.done (l := l') (lim := lim') (a := a + s) (o := q ++ o) (by rw [ha]; omega) (by rw [ha, n1, show alN a + s + 16 = alN a + 16 + s by omega, n2]; exact h2) (by rw [ha, n1, List.length_append]; omega) (by rw [ha, n1]; omega)
    refine Eq.mp (congrArg _ ?_) hd
    rw [ha, n1, show alN a + s + 32 = alN a + 32 + s by omega, n3, List.append_assoc]
    congr 1; omega
theorem Trn.sv (T : Trn l l' K s) {C : List Nat} {n a a' : Nat} {ls ls' : List Nat} (h : InfSv C l n a ls (.go a' ls')) (hK : a' ≤ K) : InfSv C l' n (a + s) ls (.go (a' + s) ls') := by
  have hle := T.le
  cases h with
  | go x t k c v h h1 h2 h3 =>
    have n1 := T.num (a + t) k hK
    have hd := InfSv.go (C := C) (l := l') (n := n) (a := a + s) (ls := ls) x t k c v (T.sy h (by omega)) h1 (by omega) (by rw [show a + s + t = a + t + s by omega, n1]; exact h3)
    refine Eq.mp (congrArg _ ?_) hd
    rw [show a + s + t = a + t + s by omega, n1]
    congr 1; omega
theorem Trn.ls (T : Trn l l' K s) {C : List Nat} {n a : Nat} {ls : List Nat} {r : InfSt} (h : InfLs C l n a ls r) : ∀ a' ls', r = .go a' ls' → a' ≤ K → InfLs C l' n (a + s) ls (.go (a' + s) ls') := by
  induction h with
  | fin a ls h =>
    intro a' o' e hK
    injection e with e1 e2
    subst e1; subst e2
    exact .fin _ _ h
  | no => intro a' o' e; cases e
  | more a a1 o o1 r h0 h h1 ih =>
    intro a' o' e hK
    have := h1.up a' o' e
    exact .more _ _ _ _ _ h0 (T.sv h (by omega)) (ih a' o' e hK)
theorem clF_tr (T : Trn l l' K s) (a : Nat) : ∀ k, a + 3 * k ≤ K → clF l' (a + s) k = clF l a k
  | 0, _ => rfl
  | k + 1, h => by
    funext i
    unfold clF
    rw [clF_tr T a k (by omega), show a + s + 3 * k = a + 3 * k + s by omega, T.num (a + 3 * k) 3 (by omega)]
theorem Trn.dy (T : Trn l l' K s) {a n a' : Nat} {ls : List Nat} (h : InfDy l a n (.go a' ls)) (hK : a' ≤ K) : InfDy l' (a + s) n (.go (a' + s) ls) := by
  have hle := T.le
  cases h with
  | done h h1 h2 h3 a' ls h4 h5 =>
    have hup := h4.up _ _ rfl
    have n1 := T.num a 5 (by omega)
    have n2 := T.num (a + 5) 5 (by omega)
    have n3 := T.num (a + 10) 4 (by omega)
    have e1 : a + s + 5 = a + 5 + s := by omega
    have e2 : a + s + 10 = a + 10 + s := by omega
    have e3 : a + s + 14 = a + 14 + s := by omega
    have n4 : clL l' (a + s + 14) (nb l (a + 10) 4 + 4) = clL l (a + 14) (nb l (a + 10) 4 + 4) := by unfold clL; rw [e3, clF_tr T (a + 14) _ (by omega)]
    have n5 := T.ls h4 _ _ rfl hK
    have hd := InfDy.done (l := l') (a := a + s) (by omega) (by rw [n1, e1, n2]; exact h1) (by rw [e2, n3]; omega) (by rw [e2, n3, n4]; exact h3) (a' + s) ls (by
      rw [n1, e1, n2, e2, n3, n4]
      rw [show a + s + 14 + 3 * (nb l (a + 10) 4 + 4) = a + 14 + 3 * (nb l (a + 10) 4 + 4) + s by omega]
      exact n5) (by rw [n1]; exact h5)
    rw [n1] at hd
    exact hd
theorem Trn.bk (T : Trn l l' K s) (hlim : lim + q.length ≤ lim') {a a' : Nat} {o o' : List Nat} (h : InfBk l lim a o (.go a' o')) (hK : a' ≤ K) : InfBk l' lim' (a + s) (q ++ o) (.go (a' + s) (q ++ o')) := by
  have hle := T.le
  have hup := h.up _ _ rfl
  have e1 : a + s + 2 = a + 2 + s := by omega
  cases h with
  | stored h h1 r h2 =>
    have hup2 : a + 2 ≤ a' := by cases h2; unfold alN; omega
    exact .stored (by omega) (by rw [T.num a 2 (by omega)]; exact h1) _ (by rw [e1]; exact T.sd hlim h2 hK)
  | fixed h h1 r h2 =>
    have hup2 := h2.up _ _ rfl
    exact .fixed (by omega) (by rw [T.num a 2 (by omega)]; exact h1) _ (by rw [e1]; exact T.toks hlim h2 _ _ rfl hK)
  | dyn h h1 n a1 ls h2 r h3 =>
    have hup2 := h3.up _ _ rfl
    have hup3 := h2.up
    exact .dyn (by omega) (by rw [T.num a 2 (by omega)]; exact h1) n (a1 + s) ls (by rw [e1]; exact T.dy h2 (by omega)) _ (T.toks hlim h3 _ _ rfl hK)
theorem Trn.bl (T : Trn l l' K s) (hlim : lim + q.length ≤ lim') {a : Nat} {o : List Nat} {r : InfSt} (h : InfBl l lim a o r) : ∀ a' o', r = .go a' o' → a' ≤ K → InfBl l' lim' (a + s) (q ++ o) (.go (a' + s) (q ++ o')) := by
  have hle := T.le
  induction h with
  | few => intro a' o' e; cases e
  | no => intro a' o' e; cases e
  | last a o h h1 a1 o1 h2 =>
    intro a' o' e hK
    injection e with e1 e2
    subst e1; subst e2
    have hup := h2.up _ _ rfl
    have hb := T.bk (q := q) hlim h2 hK
    rw [show a + 1 + s = a + s + 1 by omega] at hb
    exact .last _ _ (by omega) (by rw [T.num a 1 (by omega)]; exact h1) _ _ hb
  | more a o h h1 a1 o1 h2 r h3 ih =>
    intro a' o' e hK
    have hup : a1 ≤ a' := by
      have : ∀ {a o r}, InfBl l lim a o r → ∀ a' o', r = .go a' o' → a ≤ a' := fun h => by
        induction h with
        | few => intro a' o' e; cases e
        | no => intro a' o' e; cases e
        | last a o h h1 a1 o1 h2 => intro a' o' e; injection e with e1 e2; have := h2.up _ _ rfl; omega
        | more a o h h1 a1 o1 h2 r h3 ih => intro a' o' e; have := ih a' o' e; have := h2.up _ _ rfl; omega
      exact this h3 a' o' e
    have hup2 := h2.up _ _ rfl
    have hb := T.bk (q := q) hlim h2 (by omega)
    rw [show a + 1 + s = a + s + 1 by omega] at hb
    exact .more _ _ (by omega) (by rw [T.num a 1 (by omega)]; exact h1) _ _ hb _ (ih a' o' e hK)
end

end Go.Proofs.YtebfdoipogjpnaaGreat
