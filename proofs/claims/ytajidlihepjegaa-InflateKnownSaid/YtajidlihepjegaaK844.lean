/- inflate, plainly: a greater limit; a stream that is cut. -/
import Derived.Test.YtajidlihepjegaaK843
namespace Go.Proofs.Ytajidlihepjegaa

section
variable {l : List Nat} {lim lim' : Nat}

theorem InfRp.more {D : List Nat} {a x : Nat} {o : List Nat} {r : InfSt} (h : InfRp D l lim a x o r) (hle : lim ≤ lim') : r = .no 81 ∨ InfRp D l lim' a x o r := by
  cases h with
  | far h => exact .inr (.far h)
  | few h h1 => exact .inr (.few h h1)
  | bad h h1 y t e h2 h3 => exact .inr (.bad h h1 y t e h2 h3)
  | wide h h1 y t h2 h3 => exact .inr (.wide h h1 y t h2 h3)
  | few2 h h1 y t h2 h3 h4 => exact .inr (.few2 h h1 y t h2 h3 h4)
  | dist h h1 y t h2 h3 h4 h5 => exact .inr (.dist h h1 y t h2 h3 h4 h5)
  | over h h1 y t h2 h3 h4 h5 h6 => exact .inl rfl
  | done h h1 y t h2 h3 h4 h5 h6 => exact .inr (.done h h1 y t h2 h3 h4 h5 (by omega))
theorem InfTk.more {A D : List Nat} {a : Nat} {o : List Nat} {r : InfSt} (h : InfTk A D l lim a o r) (hle : lim ≤ lim') : r = .no 81 ∨ InfTk A D l lim' a o r := by
  cases h with
  | bad x s e h h1 => exact .inr (.bad x s e h h1)
  | fin s h => exact .inr (.fin s h)
  | byte x s h h1 h2 => exact .inr (.byte x s h h1 (by omega))
  | full x s h h1 h2 => exact .inl rfl
  | rep x s r h h1 h2 => exact (h2.more hle).imp id (fun k => .rep x s r h h1 k)
theorem InfToks.up' {A D : List Nat} {a : Nat} {o : List Nat} {r : InfSt} (h : InfToks A D l lim a o r) (hle : lim ≤ lim') : r = .no 81 ∨ InfToks A D l lim' a o r := by
  induction h with
  | fin a a' o h =>
    rcases h.more hle with k | k
    · cases k
    · exact .inr (.fin _ _ _ k)
  | no a o e h =>
    rcases h.more hle with k | k
    · exact .inl k
    · exact .inr (.no _ _ _ k)
  | more a a' o o' r h h1 ih =>
    rcases h.more hle with k | k
    · cases k
    · exact ih.imp id (fun j => .more _ _ _ _ _ k j)
theorem InfSd.more {a : Nat} {o : List Nat} {r : InfSt} (h : InfSd l lim a o r) (hle : lim ≤ lim') : r = .no 81 ∨ InfSd l lim' a o r := by
  cases h with
  | few h => exact .inr (.few h)
  | bad h h1 => exact .inr (.bad h h1)
  | over h h1 h2 => exact .inl rfl
  | few2 h h1 h2 h3 => exact .inr (.few2 h h1 (by omega) h3)
  | done h h1 h2 h3 => exact .inr (.done h h1 (by omega) h3)
theorem InfBk.more {a : Nat} {o : List Nat} {r : InfSt} (h : InfBk l lim a o r) (hle : lim ≤ lim') : r = .no 81 ∨ InfBk l lim' a o r := by
  cases h with
  | few h => exact .inr (.few h)
  | stored h h1 r h2 => exact (h2.more hle).imp id (fun k => .stored h h1 r k)
  | fixed h h1 r h2 => exact (h2.up' hle).imp id (fun k => .fixed h h1 r k)
  | bad h h1 e h2 => exact .inr (.bad h h1 e h2)
  | dyn h h1 n a1 ls h2 r h3 => exact (h3.up' hle).imp id (fun k => .dyn h h1 n a1 ls h2 r k)
  | unknown h h1 => exact .inr (.unknown h h1)
theorem InfBl.up' {a : Nat} {o : List Nat} {r : InfSt} (h : InfBl l lim a o r) (hle : lim ≤ lim') : r = .no 81 ∨ InfBl l lim' a o r := by
  induction h with
  | few a o h => exact .inr (.few a o h)
  | no a o h e h1 => exact (h1.more hle).imp id (fun k => .no a o h e k)
  | last a o h h1 a1 o1 h2 =>
    rcases h2.more hle with k | k
    · cases k
    · exact .inr (.last a o h h1 a1 o1 k)
  | more a o h h1 a1 o1 h2 r h3 ih =>
    rcases h2.more hle with k | k
    · cases k
    · exact ih.imp id (fun j => .more a o h h1 a1 o1 k r j)

variable {K : Nat}

theorem take_len (hK : K ≤ l.length) : 8 * (l.take K).length = 8 * K := by rw [List.length_take]; omega

theorem Sy.cut {ls : List Nat} {a x t : Nat} (hK : K ≤ l.length) (h : Sy ls l a x 0 t) (ha : a ≤ 8 * K) (hc : 8 * K < a + t) : Sy ls (l.take K) a 0 50 (8 * K - a) := by
  obtain ⟨F, L, hF, hM, h⟩ := h
  have hl := take_len hK
  refine ⟨F, L, hF, hM, ⟨fun u u1 u2 => ?_, ⟨by have := h.le.1; omega, by omega⟩, .inr (.inr ⟨rfl, rfl, by have := h.le.1; omega, by omega, fun hs => ?_⟩)⟩⟩
  · rw [show bt (l.take K) a u = bt l a u from nb_take l K a u hK (by omega)]
    exact h.no u u1 (by omega)
  · rw [show bt (l.take K) a (8 * K - a) = bt l a (8 * K - a) from nb_take l K a _ hK (by omega)]
    exact h.no _ hs (by omega)
theorem Sy.kept {ls : List Nat} {a x t : Nat} (hK : K ≤ l.length) (h : Sy ls l a x 0 t) (hc : a + t ≤ 8 * K) : Sy ls (l.take K) a x 0 t := (Trn.prefix' l K hK).sy h hc

theorem InfRp.cut {D : List Nat} {a x a' : Nat} {o o' : List Nat} (hK : K ≤ l.length) (h : InfRp D l lim a x o (.go a' o')) (hc : 8 * K < a') : InfRp D (l.take K) lim a x o (.no 50) := by
  have hl := take_len hK
  cases h with
  | done h h1 y t h2 h3 h4 h5 h6 =>
    by_cases c1 : 8 * K < a + lnBits x
    · exact .few h (by omega)
    by_cases c2 : 8 * K < a + lnBits x + t
    · exact .bad h (by omega) 0 _ 50 (h2.cut hK (by omega) c2) (by decide)
    exact .few2 h (by omega) y t (h2.kept hK (by omega)) h3 (by omega)
theorem InfTk.cut {A D : List Nat} {a a' : Nat} {o : List Nat} {r : InfSt} (hK : K ≤ l.length) (h : InfTk A D l lim a o r) (ha : a ≤ 8 * K) (hr : r = .fin a' ∨ ∃ o', r = .go a' o') (hc : 8 * K < a') : InfTk A D (l.take K) lim a o (.no 50) := by
  have hb : ∀ {x s}, Sy A l a x 0 s → 8 * K < a + s → InfTk A D (l.take K) lim a o (.no 50) := fun h hc => .bad 0 _ 50 (h.cut hK ha hc) (by decide)
  cases h with
  | bad => rcases hr with hr | ⟨o', hr⟩ <;> cases hr
  | fin s h => rcases hr with hr | ⟨o', hr⟩ <;> cases hr; exact hb h hc
  | byte x s h h1 h2 => rcases hr with hr | ⟨o', hr⟩ <;> cases hr; exact hb h hc
  | full => rcases hr with hr | ⟨o', hr⟩ <;> cases hr
  | rep x s r h h1 h2 =>
    rcases hr with rfl | ⟨o', rfl⟩
    · cases h2
    by_cases c : 8 * K < a + s
    · exact hb h c
    · exact .rep x s _ (h.kept hK (by omega)) h1 (h2.cut hK hc)
theorem InfToks.cut {A D : List Nat} {a : Nat} {o : List Nat} {r : InfSt} (hK : K ≤ l.length) (h : InfToks A D l lim a o r) : a ≤ 8 * K → ∀ a' o', r = .go a' o' → 8 * K < a' → InfToks A D (l.take K) lim a o (.no 50) := by
  induction h with
  | fin a a1 o h =>
    intro ha a' o' e hc
    injection e with e1 e2
    subst e1
    exact .no _ _ _ (h.cut hK ha (.inl rfl) hc)
  | no => intro ha a' o' e; cases e
  | more a a1 o o1 r h h1 ih =>
    intro ha a' o' e hc
    by_cases c : a1 ≤ 8 * K
    · have := (Trn.prefix' l K hK).tk (lim := lim) (lim' := lim) (q := []) (by simp) h c
      exact .more a a1 o o1 _ (by simpa using this) (ih c a' o' e hc)
    · exact .no _ _ _ (h.cut hK ha (.inr ⟨_, rfl⟩) (by omega))
theorem InfSd.cut {a a' : Nat} {o o' : List Nat} (hK : K ≤ l.length) (h : InfSd l lim a o (.go a' o')) (hc : 8 * K < a') : InfSd (l.take K) lim a o (.no 50) := by
  have hl := take_len hK
  cases h with
  | done h h1 h2 h3 =>
    by_cases c : 8 * K < alN a + 32
    · exact .few (by omega)
    · have n1 := nb_take l K (alN a) 16 hK (by omega)
      have n2 := nb_take l K (alN a + 16) 16 hK (by omega)
      exact .few2 (by omega) (by rw [n1, n2]; exact h1) (by rw [n1]; exact h2) (by rw [n1]; omega)
theorem InfSv.cut {C : List Nat} {n a a' : Nat} {ls ls' : List Nat} (hK : K ≤ l.length) (h : InfSv C l n a ls (.go a' ls')) (ha : a ≤ 8 * K) (hc : 8 * K < a') : InfSv C (l.take K) n a ls (.no 50) := by
  have hl := take_len hK
  cases h with
  | go x t k c v h h1 h2 h3 =>
    by_cases c1 : 8 * K < a + t
    · exact .bad 0 _ 50 (h.cut hK ha c1) (by decide)
    · exact .few x t k c v (h.kept hK (by omega)) h1 (by omega)
theorem InfLs.cut {C : List Nat} {n a : Nat} {ls : List Nat} {r : InfSt} (hK : K ≤ l.length) (h : InfLs C l n a ls r) : a ≤ 8 * K → ∀ a' ls', r = .go a' ls' → 8 * K < a' → InfLs C (l.take K) n a ls (.no 50) := by
  induction h with
  | fin a ls h =>
    intro ha a' o' e hc
    injection e with e1 e2
    omega
  | no => intro ha a' o' e; cases e
  | more a a1 o o1 r h0 h h1 ih =>
    intro ha a' o' e hc
    by_cases c : a1 ≤ 8 * K
    · have := (Trn.prefix' l K hK).sv h c
      exact .more a a1 o o1 _ h0 (by simpa using this) (ih c a' o' e hc)
    · exact .no _ _ _ h0 (h.cut hK ha (by omega))
theorem InfDy.cut {a n a' : Nat} {ls : List Nat} (hK : K ≤ l.length) (h : InfDy l a n (.go a' ls)) (hc : 8 * K < a') : InfDy (l.take K) a 0 (.no 50) := by
  have hl := take_len hK
  cases h with
  | done h h1 h2 h3 a' ls h4 h5 =>
    by_cases c1 : 8 * K < a + 14
    · exact .few (by omega)
    have n1 := nb_take l K a 5 hK (by omega)
    have n2 := nb_take l K (a + 5) 5 hK (by omega)
    have n3 := nb_take l K (a + 10) 4 hK (by omega)
    by_cases c2 : 8 * K < a + 14 + 3 * (nb l (a + 10) 4 + 4)
    · exact .few2 (by omega) (by rw [n1, n2]; exact h1) (by rw [n3]; omega)
    have n4 : clL (l.take K) (a + 14) (nb l (a + 10) 4 + 4) = clL l (a + 14) (nb l (a + 10) 4 + 4) := by
      unfold clL
      have := clF_tr (Trn.prefix' l K hK) (a + 14) (nb l (a + 10) 4 + 4) (by omega)
      rw [Nat.add_zero] at this
      rw [this]
    have n5 := h4.cut hK (by omega) _ _ rfl hc
    exact .lens (by omega) (by rw [n1, n2]; exact h1) (by rw [n3]; omega) (by rw [n3, n4]; exact h3) 50 (by rw [n1, n2, n3, n4]; exact n5)
theorem InfBk.cut {a a' : Nat} {o o' : List Nat} (hK : K ≤ l.length) (h : InfBk l lim a o (.go a' o')) (_ha : a ≤ 8 * K) (hc : 8 * K < a') : InfBk (l.take K) lim a o (.no 50) := by
  have hl := take_len hK
  by_cases c : 8 * K < a + 2
  · exact .few (by omega)
  have n1 := nb_take l K a 2 hK (by omega)
  cases h with
  | stored h h1 r h2 => exact .stored (by omega) (by rw [n1]; exact h1) _ (h2.cut hK hc)
  | fixed h h1 r h2 => exact .fixed (by omega) (by rw [n1]; exact h1) _ (h2.cut hK (by omega) _ _ rfl hc)
  | dyn h h1 n a1 ls h2 r h3 =>
    by_cases c2 : a1 ≤ 8 * K
    · have := (Trn.prefix' l K hK).dy h2 c2
      exact .dyn (by omega) (by rw [n1]; exact h1) n a1 ls (by simpa using this) _ (h3.cut hK c2 _ _ rfl hc)
    · exact .bad (by omega) (by rw [n1]; exact h1) 50 (h2.cut hK (by omega))
theorem InfBl.cut {a : Nat} {o : List Nat} {r : InfSt} (hK : K ≤ l.length) (h : InfBl l lim a o r) : a ≤ 8 * K → ∀ a' o', r = .go a' o' → 8 * K < a' → InfBl (l.take K) lim a o (.no 50) := by
  have hl := take_len hK
  induction h with
  | few => intro ha a' o' e; cases e
  | no => intro ha a' o' e; cases e
  | last a o h h1 a1 o1 h2 =>
    intro ha a' o' e hc
    injection e with e1 e2
    subst e1
    by_cases c : 8 * K < a + 1
    · exact .few a o (by omega)
    · exact .no a o (by omega) 50 (h2.cut hK (by omega) hc)
  | more a o h h1 a1 o1 h2 r h3 ih =>
    intro ha a' o' e hc
    by_cases c : 8 * K < a + 1
    · exact .few a o (by omega)
    have n1 := nb_take l K a 1 hK (by omega)
    by_cases c2 : a1 ≤ 8 * K
    · have := (Trn.prefix' l K hK).bk (lim := lim) (lim' := lim) (q := []) (by simp) h2 c2
      exact .more a o (by omega) (by rw [n1]; exact h1) a1 o1 (by simpa using this) _ (ih c2 a' o' e hc)
    · exact .no a o (by omega) 50 (h2.cut hK (by omega) (by omega))

/-- What InflateEnds asks of an answer without an error. -/
theorem ends_ok {limit : Int} {x : List Nat} {n : Nat} (h : Infl l limit x n 0) (h5 : limit ≤ 5000) :
    (1 ≤ n ∧ n ≤ l.length ∧ (x.length : Int) ≤ limit) ∧ Infl l (limit + 1000) x n 0 ∧ (∀ m, Infl (l.take n ++ m) limit x n 0) ∧ Infl (l.take (n - 1)) limit [] 0 50 := by
  obtain ⟨lim, a, rfl, h2, h3, rfl, h6, h7, h8⟩ := h.ok
  have hn : 1 ≤ alN a / 8 ∧ alN a / 8 ≤ l.length ∧ a ≤ 8 * (alN a / 8) ∧ 8 * (alN a / 8 - 1) < a := by unfold alN; omega
  refine ⟨⟨hn.1, hn.2.1, by omega⟩, ?_, fun m => ?_, ?_⟩
  · rcases h3.up' (lim' := lim + 1000) (by omega) with k | k
    · cases k
    · exact .go (lim + 1000) a x (by omega) (by omega) k
  · have k1 := (Trn.prefix' l (alN a / 8) hn.2.1).bl (lim := lim) (lim' := lim) (q := []) (by simp) h3 a x rfl hn.2.2.1
    have k1' : InfBl (l.take (alN a / 8)) lim 0 [] (.go a x) := by simpa using k1
    have k2 := (Trn.behind (l.take (alN a / 8)) m).bl (lim := lim) (lim' := lim) (q := []) (by simp) k1' a x rfl (by rw [take_len hn.2.1]; exact hn.2.2.1)
    exact .go lim a x rfl h2 (by simpa using k2)
  · exact .no lim 50 rfl h2 (h3.cut (K := alN a / 8 - 1) (by omega) (Nat.zero_le _) a x rfl hn.2.2.2)
/-- .. and of an error. -/
theorem ends_no {limit : Int} {x y : List Nat} {n m : Nat} {e f : Int} (h : Infl l limit x n e) (he : e ≠ 0) (h0 : 0 ≤ limit) (h5 : limit ≤ 5000) (h' : Infl l (limit + 1000) y m f) : (x = [] ∧ n = 0) ∧ (e = f ∨ e = 81) := by
  cases h with
  | arg h => exfalso; omega
  | go lim a o h h1 h2 => exact absurd rfl he
  | no lim er h h1 h2 =>
    refine ⟨⟨rfl, rfl⟩, ?_⟩
    rcases h2.up' (lim' := lim + 1000) (by omega) with k | k
    · injection k with k; exact .inr k
    · have := (Infl.no (l := l) (limit := limit + 1000) (lim + 1000) e (by omega) (by omega) k).det h'
      exact .inl this.2.2
end

end Go.Proofs.Ytajidlihepjegaa
