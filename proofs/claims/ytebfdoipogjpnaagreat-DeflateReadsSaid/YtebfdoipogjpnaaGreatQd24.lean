/- Several texts in one, each with its own head. -/
import Derived.Test.YtebfdoipogjpnaaGreatQd23
/- inflate, plainly: a stored block ahead of a stream; bytes behind it; its end. -/
namespace Go.Proofs.YtebfdoipogjpnaaGreat

theorem Trn.shift (p l : List Nat) (hp : ∀ b ∈ p, b < 256) : Trn l (p ++ l) (8 * l.length) (8 * p.length) :=
  ⟨fun a k _ => nb_shift p l hp a k, by rw [List.length_append]; omega, by omega⟩
theorem Trn.behind (l m : List Nat) : Trn l (l ++ m) (8 * l.length) 0 :=
  ⟨fun a k h => nb_ext l m a k h, by rw [List.length_append]; omega, rfl⟩
theorem nb_take (l : List Nat) (n a k : Nat) (hn : n ≤ l.length) (h : a + k ≤ 8 * n) : nb (l.take n) a k = nb l a k := by
  have := nb_ext (l.take n) (l.drop n) a k (by rw [List.length_take]; omega)
  rw [List.take_append_drop] at this
  exact this.symm
theorem Trn.prefix' (l : List Nat) (n : Nat) (hn : n ≤ l.length) : Trn l (l.take n) (8 * n) 0 :=
  ⟨fun a k h => nb_take l n a k hn h, by rw [List.length_take]; omega, rfl⟩

theorem nb_split (l : List Nat) (a j k : Nat) : nb l a (j + k) = nb l a j + 2 ^ j * nb l (a + j) k := by
  unfold nb
  rw [Nat.pow_add, Nat.mod_mul, Nat.pow_add, Nat.div_div_eq_div_mul]
theorem nb_byte {l : List Nat} (hb : ∀ b ∈ l, b < 256) {i : Nat} (hi : i < l.length) : nb l (8 * i) 8 = l[i] := by
  have := numB_get l hb i hi
  rw [p256] at this
  exact this
theorem nb_two {l : List Nat} (hb : ∀ b ∈ l, b < 256) {i : Nat} (hi : i + 1 < l.length) : nb l (8 * i) 16 = l[i] + 256 * l[i + 1] := by
  rw [show (16 : Nat) = 8 + 8 from rfl, nb_split, nb_byte hb (by omega), show 8 * i + 8 = 8 * (i + 1) by omega, nb_byte hb hi]
theorem bys_row {l : List Nat} (hb : ∀ b ∈ l, b < 256) (p m q : List Nat) (hl : l = p ++ (m ++ q)) : bys l (8 * p.length) m.length = m := by
  refine List.ext_getElem (by simp [bys]) (fun i h1 h2 => ?_)
  have hi : p.length + i < l.length := by rw [hl]; simp; omega
  simp only [bys, List.getElem_map, List.getElem_range]
  rw [show 8 * p.length + 8 * i = 8 * (p.length + i) by omega, nb_byte hb hi]
  subst hl
  rw [List.getElem_append_right (by omega)]
  simp only [Nat.add_sub_cancel_left]
  rw [List.getElem_append_left h2]

theorem InfRp.in' {D l : List Nat} {lim a x : Nat} {o : List Nat} {r : InfSt} (h : InfRp D l lim a x o r) : ∀ a' o', r = .go a' o' → a' ≤ 8 * l.length := by
  intro a' o' e
  cases h <;> cases e
  assumption
theorem InfTk.in' {A D l : List Nat} {lim a : Nat} {o : List Nat} {r : InfSt} (h : InfTk A D l lim a o r) : (∀ a' o', r = .go a' o' → a' ≤ 8 * l.length) ∧ ∀ a', r = .fin a' → a' ≤ 8 * l.length := by
  refine ⟨fun a' o' e => ?_, fun a' e => ?_⟩
  · cases h with
    | bad => cases e
    | fin => cases e
    | byte x s h => cases e; exact h.in'
    | full => cases e
    | rep x s r h h1 h2 => exact h2.in' a' o' e
  · cases h with
    | bad => cases e
    | fin s h => cases e; exact h.in'
    | byte => cases e
    | full => cases e
    | rep x s r h h1 h2 => subst e; cases h2
theorem InfToks.in' {A D l : List Nat} {lim a : Nat} {o : List Nat} {r : InfSt} (h : InfToks A D l lim a o r) : ∀ a' o', r = .go a' o' → a' ≤ 8 * l.length := by
  induction h with
  | fin a a' o h => intro x y e; cases e; exact h.in'.2 _ rfl
  | no => intro x y e; cases e
  | more a a' o o' r h h1 ih => exact ih
theorem InfBk.in' {l : List Nat} {lim a : Nat} {o : List Nat} {r : InfSt} (h : InfBk l lim a o r) : ∀ a' o', r = .go a' o' → a' ≤ 8 * l.length ∧ a + 2 ≤ a' := by
  intro a' o' e
  cases h with
  | few => cases e
  | stored h h1 r h2 =>
    subst e
    cases h2
    refine ⟨by assumption, ?_⟩
    unfold alN; omega
  | fixed h h1 r h2 => exact ⟨h2.in' _ _ e, h2.up _ _ e⟩
  | bad => cases e
  | dyn h h1 n a1 ls h2 r h3 => exact ⟨h3.in' _ _ e, by have := h3.up _ _ e; have := h2.up; omega⟩
  | unknown => cases e
theorem InfBl.in' {l : List Nat} {lim a : Nat} {o : List Nat} {r : InfSt} (h : InfBl l lim a o r) : ∀ a' o', r = .go a' o' → a' ≤ 8 * l.length ∧ a + 3 ≤ a' := by
  induction h with
  | few => intro a' o' e; cases e
  | no => intro a' o' e; cases e
  | last a o h h1 a1 o1 h2 => intro a' o' e; injection e with e1 e2; have := h2.in' _ _ rfl; omega
  | more a o h h1 a1 o1 h2 r h3 ih => intro a' o' e; have := ih a' o' e; have := h2.in' _ _ rfl; omega

theorem InfRp.fits {D l : List Nat} {lim a x : Nat} {o : List Nat} {r : InfSt} (h : InfRp D l lim a x o r) : ∀ a' o', r = .go a' o' → o'.length ≤ lim := by
  intro a' o' e
  cases h <;> cases e
  rw [ext_len]; assumption
theorem InfToks.fits {A D l : List Nat} {lim a : Nat} {o : List Nat} {r : InfSt} (h : InfToks A D l lim a o r) : o.length ≤ lim → ∀ a' o', r = .go a' o' → o'.length ≤ lim := by
  induction h with
  | fin a a' o h => intro h0 x y e; cases e; exact h0
  | no => intro h0 x y e; cases e
  | more a a' o o' r h h1 ih =>
    intro h0 x y e
    refine ih ?_ x y e
    cases h with
    | byte x s h h1 h2 => simp; omega
    | rep x s r h h1 h2 => exact h2.fits _ _ rfl
theorem InfBk.fits {l : List Nat} {lim a : Nat} {o : List Nat} {r : InfSt} (h : InfBk l lim a o r) (h0 : o.length ≤ lim) : ∀ a' o', r = .go a' o' → o'.length ≤ lim := by
  intro a' o' e
  cases h with
  | few => cases e
  | stored h h1 r h2 =>
    subst e
    cases h2
    rw [List.length_append, bys_len]; assumption
  | fixed h h1 r h2 => exact h2.fits h0 _ _ e
  | bad => cases e
  | dyn h h1 n a1 ls h2 r h3 => exact h3.fits h0 _ _ e
  | unknown => cases e
theorem InfBl.fits {l : List Nat} {lim a : Nat} {o : List Nat} {r : InfSt} (h : InfBl l lim a o r) : o.length ≤ lim → ∀ a' o', r = .go a' o' → o'.length ≤ lim := by
  induction h with
  | few => intro h0 a' o' e; cases e
  | no => intro h0 a' o' e; cases e
  | last a o h h1 a1 o1 h2 => intro h0 a' o' e; injection e with e1 e2; subst e2; exact h2.fits h0 _ _ rfl
  | more a o h h1 a1 o1 h2 r h3 ih => intro h0 a' o' e; exact ih (h2.fits h0 _ _ rfl) a' o' e

/-- What an answer without an error comes of. -/
theorem Infl.ok {l : List Nat} {limit : Int} {o : List Nat} {k : Nat} (h : Infl l limit o k 0) : ∃ (lim a : Nat), limit = (lim : Int) ∧ lim ≤ 524288 ∧ InfBl l lim 0 [] (.go a o) ∧ k = alN a / 8 ∧ a ≤ 8 * l.length ∧ 3 ≤ a ∧ o.length ≤ lim := by
  cases h with
  | go lim a _ h h1 h2 => exact ⟨lim, a, h, h1, h2, rfl, (h2.in' _ _ rfl).1, by have := (h2.in' _ _ rfl).2; omega, h2.fits (Nat.zero_le _) _ _ rfl⟩
  | no lim _ h h1 h2 => exact absurd rfl (h2.ne _ rfl)

/-- The head of a stored block of k bytes that is not the last one. -/
def hdr (k : Nat) : List Nat := [0, k % 256, k / 256, 255 - k % 256, 255 - k / 256]
theorem ahead {l block x : List Nat} {n : Nat} (hl : ∀ b ∈ l, b < 256) (hb : ∀ b ∈ block, b < 256) (hk : block.length ≤ 2000) (h : Infl l 5000 x n 0) :
    Infl ((hdr block.length ++ block) ++ l) 7000 (block ++ x) (n + block.length + 5) 0 := by
  obtain ⟨lim, a, h1, h2, h3, rfl, h5, h6, -⟩ := h.ok
  obtain rfl : lim = 5000 := by omega
  have hh : ∀ b ∈ hdr block.length, b < 256 := by
    intro b hb
    simp only [hdr, List.mem_cons, List.not_mem_nil, or_false] at hb
    omega
  have hp : ∀ b ∈ hdr block.length ++ block, b < 256 := fun b h => by
    rcases List.mem_append.1 h with h | h
    · exact hh b h
    · exact hb b h
  have hall : ∀ b ∈ (hdr block.length ++ block) ++ l, b < 256 := fun b h => by
    rcases List.mem_append.1 h with h | h
    · exact hp b h
    · exact hl b h
  have hlen : (hdr block.length ++ block).length = block.length + 5 := by simp only [hdr, List.length_append, List.length_cons, List.length_nil]; omega
  have hbys : bys ((hdr block.length ++ block) ++ l) 40 block.length = block := bys_row hall (hdr block.length) block l (by rw [List.append_assoc])
  have hrest := (Trn.shift (hdr block.length ++ block) l hp).bl (lim := 5000) (lim' := 7000) (q := block) (by omega) h3 a x rfl h5
  obtain ⟨L, hL⟩ : ∃ L, (hdr block.length ++ block) ++ l = L := ⟨_, rfl⟩
  have hL5 : L = 0 :: (block.length % 256) :: (block.length / 256) :: (255 - block.length % 256) :: (255 - block.length / 256) :: (block ++ l) := by rw [← hL]; rfl
  rw [hL] at hall hbys hrest ⊢
  have hLl : 5 + block.length ≤ L.length := by rw [hL5]; simp; omega
  have b0 : nb L 0 8 = 0 := by
    have := nb_byte hall (i := 0) (by omega)
    rw [this]; subst hL5; rfl
  have b1 : nb L 8 16 = block.length := by
    have := nb_two hall (i := 1) (by omega)
    rw [show 8 = 8 * 1 from rfl, this]
    subst hL5
    show block.length % 256 + 256 * (block.length / 256) = _
    omega
  have b3 : nb L 24 16 + block.length = 65535 := by
    have := nb_two hall (i := 3) (by omega)
    rw [show 24 = 8 * 3 from rfl, this]
    subst hL5
    show (255 - block.length % 256) + 256 * (255 - block.length / 256) + block.length = 65535
    omega
  have s0 := nb_split L 0 1 7
  have s1 := nb_split L 1 2 5
  have n0 : nb L 0 1 = 0 := by
    rw [show 1 + 7 = 8 from rfl, b0] at s0; omega
  have n1 : nb L 1 2 = 0 := by
    rw [show 1 + 7 = 8 from rfl, b0] at s0
    rw [show 2 + 5 = 7 from rfl] at s1
    rw [show 0 + 1 = 1 from rfl] at s0
    omega
  have e8 : alN 3 = 8 := by decide
  have hsd : InfSd L 7000 3 [] (.go (40 + 8 * block.length) block) := by
    have hd := InfSd.done (l := L) (lim := 7000) (a := 3) (o := []) (by rw [e8]; omega) (by rw [e8, b1]; exact b3) (by rw [e8, b1]; simp; omega) (by rw [e8, b1]; omega)
    refine Eq.mp (congrArg _ ?_) hd
    rw [e8, b1, hbys]
    rfl
  have hfin : InfBl L 7000 0 [] (.go (a + 8 * (block.length + 5)) (block ++ x)) := by
    refine .more 0 [] (by omega) (by rw [n0]; decide) _ _ (.stored (by omega) n1 _ hsd) _ ?_
    rw [hlen, Nat.zero_add, List.append_nil, show 8 * (block.length + 5) = 40 + 8 * block.length by omega] at hrest
    rw [show a + 8 * (block.length + 5) = a + (40 + 8 * block.length) by omega]
    exact hrest
  have := Infl.go (l := L) (limit := 7000) 7000 _ _ rfl (by decide) hfin
  refine Eq.mp (congrArg (fun z => Infl L 7000 (block ++ x) z 0) ?_) this
  unfold alN; omega

end Go.Proofs.YtebfdoipogjpnaaGreat

/- inflate, plainly: a greater limit; a stream that is cut. -/
namespace Go.Proofs.YtebfdoipogjpnaaGreat

section
variable {l : List Nat} {lim lim' : Nat}

theorem InfRp.more {D : List Nat} {a x : Nat} {o : List Nat} {r : InfSt} (h : InfRp D l lim a x o r) (hle : lim ≤ lim') : r = .no 81 ∨ InfRp D l lim' a x o r := by
  cases h with
  | far h => exact .inr (.far h)
  | few h h1 => exact .inr (.few h h1)
  | bad h h1 y t e h2 h3 => exact .inr (.bad h h1 y t e h2 h3)
  | wide h h1 y t h2 h3 => exact .inr (.wide h h1 y t h2 h3)
  | few2 h h1 y t h2 h3 h4 => exact .inr (.few2 h h1 y t h2 h3 h4)
  | dist h h1 y t h2 h3 h4 h5 => exact .inr (.dist h h1 y t h2 h3 h4 h5)
  | over h h1 y t h2 h3 h4 h5 h6 => exact .inl rfl
  | done h h1 y t h2 h3 h4 h5 h6 => exact .inr (.done h h1 y t h2 h3 h4 h5 (by omega))
theorem InfTk.more {A D : List Nat} {a : Nat} {o : List Nat} {r : InfSt} (h : InfTk A D l lim a o r) (hle : lim ≤ lim') : r = .no 81 ∨ InfTk A D l lim' a o r := by
  cases h with
  | bad x s e h h1 => exact .inr (.bad x s e h h1)
  | fin s h => exact .inr (.fin s h)
  | byte x s h h1 h2 => exact .inr (.byte x s h h1 (by omega))
  | full x s h h1 h2 => exact .inl rfl
  | rep x s r h h1 h2 => exact (h2.more hle).imp id (fun k => .rep x s r h h1 k)
theorem InfToks.up' {A D : List Nat} {a : Nat} {o : List Nat} {r : InfSt} (h : InfToks A D l lim a o r) (hle : lim ≤ lim') : r = .no 81 ∨ InfToks A D l lim' a o r := by
  induction h with
  | fin a a' o h =>
    rcases h.more hle with k | k
    · cases k
    · exact .inr (.fin _ _ _ k)
  | no a o e h =>
    rcases h.more hle with k | k
    · exact .inl k
    · exact .inr (.no _ _ _ k)
  | more a a' o o' r h h1 ih =>
    rcases h.more hle with k | k
    · cases k
    · exact ih.imp id (fun j => .more _ _ _ _ _ k j)
theorem InfSd.more {a : Nat} {o : List Nat} {r : InfSt} (h : InfSd l lim a o r) (hle : lim ≤ lim') : r = .no 81 ∨ InfSd l lim' a o r := by
  cases h with
  | few h => exact .inr (.few h)
  | bad h h1 => exact .inr (.bad h h1)
  | over h h1 h2 => exact .inl rfl
  | few2 h h1 h2 h3 => exact .inr (.few2 h h1 (by omega) h3)
  | done h h1 h2 h3 => exact .inr (.done h h1 (by omega) h3)
theorem InfBk.more {a : Nat} {o : List Nat} {r : InfSt} (h : InfBk l lim a o r) (hle : lim ≤ lim') : r = .no 81 ∨ InfBk l lim' a o r := by
  cases h with
  | few h => exact .inr (.few h)
  | stored h h1 r h2 => exact (h2.more hle).imp id (fun k => .stored h h1 r k)
  | fixed h h1 r h2 => exact (h2.up' hle).imp id (fun k => .fixed h h1 r k)
  | bad h h1 e h2 => exact .inr (.bad h h1 e h2)
  | dyn h h1 n a1 ls h2 r h3 => exact (h3.up' hle).imp id (fun k => .dyn h h1 n a1 ls h2 r k)
  | unknown h h1 => exact .inr (.unknown h h1)
theorem InfBl.up' {a : Nat} {o : List Nat} {r : InfSt} (h : InfBl l lim a o r) (hle : lim ≤ lim') : r = .no 81 ∨ InfBl l lim' a o r := by
  induction h with
  | few a o h => exact .inr (.few a o h)
  | no a o h e h1 => exact (h1.more hle).imp id (fun k => .no a o h e k)
  | last a o h h1 a1 o1 h2 =>
    rcases h2.more hle with k | k
    · cases k
    · exact .inr (.last a o h h1 a1 o1 k)
  | more a o h h1 a1 o1 h2 r h3 ih =>
    rcases h2.more hle with k | k
    · cases k
    · exact ih.imp id (fun j => .more a o h h1 a1 o1 k r j)

variable {K : Nat}

theorem take_len (hK : K ≤ l.length) : 8 * (l.take K).length = 8 * K := by rw [List.length_take]; omega

theorem Sy.cut {ls : List Nat} {a x t : Nat} (hK : K ≤ l.length) (h : Sy ls l a x 0 t) (ha : a ≤ 8 * K) (hc : 8 * K < a + t) : Sy ls (l.take K) a 0 50 (8 * K - a) := by
  obtain ⟨F, L, hF, hM, h⟩ := h
  have hl := take_len hK
  refine ⟨F, L, hF, hM, ⟨fun u u1 u2 => ?_, ⟨by have := h.le.1; omega, by omega⟩, .inr (.inr ⟨rfl, rfl, by have := h.le.1; omega, by omega, fun hs => ?_⟩)⟩⟩
  · rw [show bt (l.take K) a u = bt l a u from nb_take l K a u hK (by omega)]
    exact h.no u u1 (by omega)
  · rw [show bt (l.take K) a (8 * K - a) = bt l a (8 * K - a) from nb_take l K a _ hK (by omega)]
    exact h.no _ hs (by omega)
theorem Sy.kept {ls : List Nat} {a x t : Nat} (hK : K ≤ l.length) (h : Sy ls l a x 0 t) (hc : a + t ≤ 8 * K) : Sy ls (l.take K) a x 0 t := (Trn.prefix' l K hK).sy h hc

theorem InfRp.cut {D : List Nat} {a x a' : Nat} {o o' : List Nat} (hK : K ≤ l.length) (h : InfRp D l lim a x o (.go a' o')) (hc : 8 * K < a') : InfRp D (l.take K) lim a x o (.no 50) := by
  have hl := take_len hK
  cases h with
  | done h h1 y t h2 h3 h4 h5 h6 =>
    by_cases c1 : 8 * K < a + lnBits x
    · exact .few h (by omega)
    by_cases c2 : 8 * K < a + lnBits x + t
    · exact .bad h (by omega) 0 _ 50 (h2.cut hK (by omega) c2) (by decide)
    exact .few2 h (by omega) y t (h2.kept hK (by omega)) h3 (by omega)
theorem InfTk.cut {A D : List Nat} {a a' : Nat} {o : List Nat} {r : InfSt} (hK : K ≤ l.length) (h : InfTk A D l lim a o r) (ha : a ≤ 8 * K) (hr : r = .fin a' ∨ ∃ o', r = .go a' o') (hc : 8 * K < a') : InfTk A D (l.take K) lim a o (.no 50) := by
  have hb : ∀ {x s}, Sy A l a x 0 s → 8 * K < a + s → InfTk A D (l.take K) lim a o (.no 50) := fun h hc => .bad 0 _ 50 (h.cut hK ha hc) (by decide)
  cases h with
  | bad => rcases hr with hr | ⟨o', hr⟩ <;> cases hr
  | fin s h => rcases hr with hr | ⟨o', hr⟩ <;> cases hr; exact hb h hc
  | byte x s h h1 h2 => rcases hr with hr | ⟨o', hr⟩ <;> cases hr; exact hb h hc
  | full => rcases hr with hr | ⟨o', hr⟩ <;> cases hr
  | rep x s r h h1 h2 =>
    rcases hr with rfl | ⟨o', rfl⟩
    · cases h2
    by_cases c : 8 * K < a + s
    · exact hb h c
    · exact .rep x s _ (h.kept hK (by omega)) h1 (h2.cut hK hc)
theorem InfToks.cut {A D : List Nat} {a : Nat} {o : List Nat} {r : InfSt} (hK : K ≤ l.length) (h : InfToks A D l lim a o r) : a ≤ 8 * K → ∀ a' o', r = .go a' o' → 8 * K < a' → InfToks A D (l.take K) lim a o (.no 50) := by
  induction h with
  | fin a a1 o h =>
    intro ha a' o' e hc
    injection e with e1 e2
    subst e1
    exact .no _ _ _ (h.cut hK ha (.inl rfl) hc)
  | no => intro ha a' o' e; cases e
  | more a a1 o o1 r h h1 ih =>
    intro ha a' o' e hc
    by_cases c : a1 ≤ 8 * K
    · have := (Trn.prefix' l K hK).tk (lim := lim) (lim' := lim) (q := []) (by simp) h c
      exact .more a a1 o o1 _ (by simpa using this) (ih c a' o' e hc)
    · exact .no _ _ _ (h.cut hK ha (.inr ⟨_, rfl⟩) (by omega))
theorem InfSd.cut {a a' : Nat} {o o' : List Nat} (hK : K ≤ l.length) (h : InfSd l lim a o (.go a' o')) (hc : 8 * K < a') : InfSd (l.take K) lim a o (.no 50) := by
  have hl := take_len hK
  cases h with
  | done h h1 h2 h3 =>
    by_cases c : 8 * K < alN a + 32
    · exact .few (by omega)
    · have n1 := nb_take l K (alN a) 16 hK (by omega)
      have n2 := nb_take l K (alN a + 16) 16 hK (by omega)
      exact .few2 (by omega) (by rw [n1, n2]; exact h1) (by rw [n1]; exact h2) (by rw [n1]; omega)
theorem InfSv.cut {C : List Nat} {n a a' : Nat} {ls ls' : List Nat} (hK : K ≤ l.length) (h : InfSv C l n a ls (.go a' ls')) (ha : a ≤ 8 * K) (hc : 8 * K < a') : InfSv C (l.take K) n a ls (.no 50) := by
  have hl := take_len hK
  cases h with
  | go x t k c v h h1 h2 h3 =>
    by_cases c1 : 8 * K < a + t
    · exact .bad 0 _ 50 (h.cut hK ha c1) (by decide)
    · exact .few x t k c v (h.kept hK (by omega)) h1 (by omega)
theorem InfLs.cut {C : List Nat} {n a : Nat} {ls : List Nat} {r : InfSt} (hK : K ≤ l.length) (h : InfLs C l n a ls r) : a ≤ 8 * K → ∀ a' ls', r = .go a' ls' → 8 * K < a' → InfLs C (l.take K) n a ls (.no 50) := by
  induction h with
  | fin a ls h =>
    intro ha a' o' e hc
    injection e with e1 e2
    omega
  | no => intro ha a' o' e; cases e
  | more a a1 o o1 r h0 h h1 ih =>
    intro ha a' o' e hc
    by_cases c : a1 ≤ 8 * K
    · have := (Trn.prefix' l K hK).sv h c
      exact .more a a1 o o1 _ h0 (by simpa using this) (ih c a' o' e hc)
    · exact .no _ _ _ h0 (h.cut hK ha (by omega))
theorem InfDy.cut {a n a' : Nat} {ls : List Nat} (hK : K ≤ l.length) (h : InfDy l a n (.go a' ls)) (hc : 8 * K < a') : InfDy (l.take K) a 0 (.no 50) := by
  have hl := take_len hK
  cases h with
  | done h h1 h2 h3 a' ls h4 h5 =>
    by_cases c1 : 8 * K < a + 14
    · exact .few (by omega)
    have n1 := nb_take l K a 5 hK (by omega)
    have n2 := nb_take l K (a + 5) 5 hK (by omega)
    have n3 := nb_take l K (a + 10) 4 hK (by omega)
    by_cases c2 : 8 * K < a + 14 + 3 * (nb l (a + 10) 4 + 4)
    · exact .few2 (by omega) (by rw [n1, n2]; exact h1) (by rw [n3]; omega)
    have n4 : clL (l.take K) (a + 14) (nb l (a + 10) 4 + 4) = clL l (a + 14) (nb l (a + 10) 4 + 4) := by
      unfold clL
      have := clF_tr (Trn.prefix' l K hK) (a + 14) (nb l (a + 10) 4 + 4) (by omega)
      rw [Nat.add_zero] at this
      rw [this]
    have n5 := h4.cut hK (by omega) _ _ rfl hc
    exact .lens (by omega) (by rw [n1, n2]; exact h1) (by rw [n3]; omega) (by rw [n3, n4]; exact h3) 50 (by rw [n1, n2, n3, n4]; exact n5)
theorem InfBk.cut {a a' : Nat} {o o' : List Nat} (hK : K ≤ l.length) (h : InfBk l lim a o (.go a' o')) (_ha : a ≤ 8 * K) (hc : 8 * K < a') : InfBk (l.take K) lim a o (.no 50) := by
  have hl := take_len hK
  by_cases c : 8 * K < a + 2
  · exact .few (by omega)
  have n1 := nb_take l K a 2 hK (by omega)
  cases h with
  | stored h h1 r h2 => exact .stored (by omega) (by rw [n1]; exact h1) _ (h2.cut hK hc)
  | fixed h h1 r h2 => exact .fixed (by omega) (by rw [n1]; exact h1) _ (h2.cut hK (by omega) _ _ rfl hc)
  | dyn h h1 n a1 ls h2 r h3 =>
    by_cases c2 : a1 ≤ 8 * K
    · have := (Trn.prefix' l K hK).dy h2 c2
      exact .dyn (by omega) (by rw [n1]; exact h1) n a1 ls (by simpa using this) _ (h3.cut hK c2 _ _ rfl hc)
    · exact .bad (by omega) (by rw [n1]; exact h1) 50 (h2.cut hK (by omega))
theorem InfBl.cut {a : Nat} {o : List Nat} {r : InfSt} (hK : K ≤ l.length) (h : InfBl l lim a o r) : a ≤ 8 * K → ∀ a' o', r = .go a' o' → 8 * K < a' → InfBl (l.take K) lim a o (.no 50) := by
  have hl := take_len hK
  induction h with
  | few => intro ha a' o' e; cases e
  | no => intro ha a' o' e; cases e
  | last a o h h1 a1 o1 h2 =>
    intro ha a' o' e hc
    injection e with e1 e2
    subst e1
    by_cases c : 8 * K < a + 1
    · exact .few a o (by omega)
    · exact .no a o (by omega) 50 (h2.cut hK (by omega) hc)
  | more a o h h1 a1 o1 h2 r h3 ih =>
    intro ha a' o' e hc
    by_cases c : 8 * K < a + 1
    · exact .few a o (by omega)
    have n1 := nb_take l K a 1 hK (by omega)
    by_cases c2 : a1 ≤ 8 * K
    · have := (Trn.prefix' l K hK).bk (lim := lim) (lim' := lim) (q := []) (by simp) h2 c2
      exact .more a o (by omega) (by rw [n1]; exact h1) a1 o1 (by simpa using this) _ (ih c2 a' o' e hc)
    · exact .no a o (by omega) 50 (h2.cut hK (by omega) (by omega))

/-- What InflateEnds asks of an answer without an error. -/
theorem ends_ok {limit : Int} {x : List Nat} {n : Nat} (h : Infl l limit x n 0) (h5 : limit ≤ 5000) :
    (1 ≤ n ∧ n ≤ l.length ∧ (x.length : Int) ≤ limit) ∧ Infl l (limit + 1000) x n 0 ∧ (∀ m, Infl (l.take n ++ m) limit x n 0) ∧ Infl (l.take (n - 1)) limit [] 0 50 := by
  obtain ⟨lim, a, rfl, h2, h3, rfl, h6, h7, h8⟩ := h.ok
  have hn : 1 ≤ alN a / 8 ∧ alN a / 8 ≤ l.length ∧ a ≤ 8 * (alN a / 8) ∧ 8 * (alN a / 8 - 1) < a := by unfold alN; omega
  refine ⟨⟨hn.1, hn.2.1, by omega⟩, ?_, fun m => ?_, ?_⟩
  · rcases h3.up' (lim' := lim + 1000) (by omega) with k | k
    · cases k
    · exact .go (lim + 1000) a x (by omega) (by omega) k
  · have k1 := (Trn.prefix' l (alN a / 8) hn.2.1).bl (lim := lim) (lim' := lim) (q := []) (by simp) h3 a x rfl hn.2.2.1
    have k1' : InfBl (l.take (alN a / 8)) lim 0 [] (.go a x) := by simpa using k1
    have k2 := (Trn.behind (l.take (alN a / 8)) m).bl (lim := lim) (lim' := lim) (q := []) (by simp) k1' a x rfl (by rw [take_len hn.2.1]; exact hn.2.2.1)
    exact .go lim a x rfl h2 (by simpa using k2)
  · exact .no lim 50 rfl h2 (h3.cut (K := alN a / 8 - 1) (by omega) (Nat.zero_le _) a x rfl hn.2.2.2)
/-- .. and of an error. -/
theorem ends_no {limit : Int} {x y : List Nat} {n m : Nat} {e f : Int} (h : Infl l limit x n e) (he : e ≠ 0) (h0 : 0 ≤ limit) (h5 : limit ≤ 5000) (h' : Infl l (limit + 1000) y m f) : (x = [] ∧ n = 0) ∧ (e = f ∨ e = 81) := by
  cases h with
  | arg h => exfalso; omega
  | go lim a o h h1 h2 => exact absurd rfl he
  | no lim er h h1 h2 =>
    refine ⟨⟨rfl, rfl⟩, ?_⟩
    rcases h2.up' (lim' := lim + 1000) (by omega) with k | k
    · injection k with k; exact .inr k
    · have := (Infl.no (l := l) (limit := limit + 1000) (lim + 1000) e (by omega) (by omega) k).det h'
      exact .inl this.2.2
end

end Go.Proofs.YtebfdoipogjpnaaGreat

/- inflate, plainly: the chapter's examples, and each error. -/
namespace Go.Proofs.YtebfdoipogjpnaaGreat

/-- A symbol of a code, read where its bits stand. -/
theorem sy_of {ls l : List Nat} {a x s : Nat} (hc : chk ls = 0) (hx : x < ls.length) (h1 : 1 ≤ s) (hs : lq ls x = s) (hb : nb l a s = cd (lq ls) ls.length x)
    (hn : ∀ t, t < s → 1 ≤ t → ∀ i, i < ls.length → ¬ (lq ls i = t ∧ nb l a t = cd (lq ls) ls.length i)) (hl : a + s ≤ 8 * l.length) : Sy ls l a x 0 s := by
  obtain ⟨F, L, hF, hM⟩ := told_of_chk hc
  have h15 := (chk_zero hc).2.1 x hx
  have hL : lq ls x ≤ L := hM.ge x hx ⟨by omega, .inl h15⟩
  refine ⟨F, L, hF, hM, ⟨fun t t1 t2 => ?_, ⟨by omega, hl⟩, .inl ⟨rfl, h1, ?_⟩⟩⟩
  · cases e : F (bt l a t, t) with
    | none => rfl
    | some i =>
      obtain ⟨i1, i2, i3⟩ := hF.out _ _ e
      simp only [Prod.mk.injEq] at i3
      exact absurd ⟨i3.2.symm, i3.1⟩ (hn t t2 t1 i i1)
  · have := hF.has x hx ⟨by omega, .inl h15⟩
    rw [hs] at this
    rw [show bt l a s = cd (lq ls) ls.length x from hb]
    exact this
/-- There are no more bits. -/
theorem sy_end {ls l : List Nat} {a s : Nat} (hc : chk ls = 0) (x : Nat) (hx : x < ls.length) (hs : s < lq ls x) (hn : ∀ t, t ≤ s → 1 ≤ t → ∀ i, i < ls.length → ¬ (lq ls i = t ∧ nb l a t = cd (lq ls) ls.length i)) (hl : a + s = 8 * l.length) : Sy ls l a 0 50 s := by
  obtain ⟨F, L, hF, hM⟩ := told_of_chk hc
  have h15 := (chk_zero hc).2.1 x hx
  have hL : lq ls x ≤ L := hM.ge x hx ⟨by omega, .inl h15⟩
  have hno : ∀ t, 1 ≤ t → t ≤ s → F (bt l a t, t) = none := fun t t1 t2 => by
    cases e : F (bt l a t, t) with
    | none => rfl
    | some i =>
      obtain ⟨i1, i2, i3⟩ := hF.out _ _ e
      simp only [Prod.mk.injEq] at i3
      exact absurd ⟨i3.2.symm, i3.1⟩ (hn t t2 t1 i i1)
  exact ⟨F, L, hF, hM, ⟨fun t t1 t2 => hno t t1 (by omega), ⟨by omega, by omega⟩, .inr (.inr ⟨rfl, rfl, by omega, hl, fun h => hno s h (Nat.le_refl _)⟩)⟩⟩
/-- No code begins so. -/
theorem sy_none {ls l : List Nat} {a s : Nat} (hc : chk ls = 0) (hs : ∀ i, i < ls.length → lq ls i ≤ s) (x : Nat) (hx : x < ls.length) (hsx : lq ls x = s) (h1 : 1 ≤ s) (hn : ∀ t, t ≤ s → 1 ≤ t → ∀ i, i < ls.length → ¬ (lq ls i = t ∧ nb l a t = cd (lq ls) ls.length i)) (hl : a + s ≤ 8 * l.length) : Sy ls l a 0 60 s := by
  obtain ⟨F, L, hF, hM⟩ := told_of_chk hc
  have h15 := (chk_zero hc).2.1 x hx
  have hL : lq ls x ≤ L := hM.ge x hx ⟨by omega, .inl h15⟩
  have hL2 : L ≤ s := by
    rcases hM.le with h | ⟨i, i1, i2, i3⟩
    · omega
    · have := hs i i1; omega
  have hno : ∀ t, 1 ≤ t → t ≤ s → F (bt l a t, t) = none := fun t t1 t2 => by
    cases e : F (bt l a t, t) with
    | none => rfl
    | some i =>
      obtain ⟨i1, i2, i3⟩ := hF.out _ _ e
      simp only [Prod.mk.injEq] at i3
      exact absurd ⟨i3.2.symm, i3.1⟩ (hn t t2 t1 i i1)
  exact ⟨F, L, hF, hM, ⟨fun t t1 t2 => hno t t1 (by omega), ⟨by omega, hl⟩, .inr (.inl ⟨rfl, rfl, by omega, fun h => hno s h (Nat.le_refl _)⟩)⟩⟩
theorem fixG_ge : ∀ x, x < 288 → 7 ≤ fixG x := by decide +kernel
theorem fix_end {l : List Nat} {a s : Nat} (hs : s < 7) (hl : a + s = 8 * l.length) : Sy fixA l a 0 50 s :=
  sy_end fixA_chk 0 (by rw [fixA_len]; decide) (by rw [fixA_lq]; show s < 8; omega) (fun t t1 t2 i hi h => by
    rw [fixA_len] at hi
    rw [fixA_lq] at h
    have := fixG_ge i hi
    omega) hl

def kn1 : List Nat := [1, 3, 0, 252, 255, 97, 98, 99]
def kn2 : List Nat := [75, 76, 74, 6, 0]
def kn3 : List Nat := [75, 4]
def kn4 : List Nat := [1, 3, 0, 253, 255, 97, 98, 99]
def kn7 : List Nat := [1, 3, 0, 252, 255, 97, 98]
def kn8 : List Nat := [0, 1, 0, 254, 255, 120, 1, 1, 0, 254, 255, 121, 9]
def kn9 : List Nat := [3, 0]

theorem kn1_i : Infl kn1 100 [97, 98, 99] 8 0 :=
  .go 100 64 _ rfl (by decide) (.last 0 [] (by decide) (by decide +kernel) 64 _ (.stored (by decide) (by decide +kernel) _ (by
    have hd := InfSd.done (l := kn1) (lim := 100) (a := 3) (o := []) (by decide +kernel) (by decide +kernel) (by decide +kernel) (by decide +kernel)
    have e : InfSt.go (alN 3 + 32 + 8 * nb kn1 (alN 3) 16) ([] ++ bys kn1 (alN 3 + 32) (nb kn1 (alN 3) 16)) = .go 64 [97, 98, 99] := by
      congr 1 <;> decide +kernel
    rw [e] at hd
    exact hd)))
theorem kn2_i : Infl kn2 100 [97, 98, 99] 5 0 := by
  have h := (Trn.prefix' abcL 5 (by decide)).bl (lim := 10) (lim' := 100) (q := []) (by decide) abc_runs 34 _ rfl (by decide)
  exact .go 100 34 _ rfl (by decide) h
theorem kn2_o : Infl kn2 2 [] 0 81 := by
  have T := Trn.prefix' abcL 5 (by decide)
  exact .no 2 81 rfl (by decide) (.no 0 [] (by decide) 81 (.fixed (by decide) (by decide +kernel) _
    (.more 3 11 [] [97] _ (.byte 97 8 (T.sy abc_a (by decide)) (by decide) (by decide)) (.more 11 19 [97] [97, 98] _ (.byte 98 8 (T.sy abc_b (by decide)) (by decide) (by decide)) (.no 19 _ 81 (.full 99 8 (T.sy abc_c (by decide)) (by decide) (by decide)))))))
theorem kn3_a : Sy fixA kn3 3 97 0 8 := sy_fix (by decide) (by decide) (by decide) (by decide +kernel) (by decide +kernel) (by decide)
theorem kn3_i : Infl kn3 100 [] 0 50 :=
  .no 100 50 rfl (by decide) (.no 0 [] (by decide) 50 (.fixed (by decide) (by decide +kernel) _ (.more 3 11 [] [97] _ (.byte 97 8 kn3_a (by decide) (by decide)) (.no 11 _ 50 (.bad 0 5 50 (fix_end (by decide) (by decide)) (by decide))))))
theorem kn4_i : Infl kn4 100 [] 0 80 :=
  .no 100 80 rfl (by decide) (.no 0 [] (by decide) 80 (.stored (by decide) (by decide +kernel) _ (.bad (by decide +kernel) (by decide +kernel))))
theorem kn5_i : Infl [7] 100 [] 0 80 := .no 100 80 rfl (by decide) (.no 0 [] (by decide) 80 (.unknown (by decide) (by decide +kernel)))
theorem kn6_i : Infl [] 100 [] 0 50 := .no 100 50 rfl (by decide) (.few 0 [] (by decide))
theorem kn7_i : Infl kn7 100 [] 0 50 :=
  .no 100 50 rfl (by decide) (.no 0 [] (by decide) 50 (.stored (by decide) (by decide +kernel) _ (.few2 (by decide +kernel) (by decide +kernel) (by decide +kernel) (by decide +kernel))))
theorem kn8_i : Infl kn8 100 [120, 121] 12 0 := by
  have h1 : InfSd kn8 100 3 [] (.go 48 [120]) := by
    have hd := InfSd.done (l := kn8) (lim := 100) (a := 3) (o := []) (by decide +kernel) (by decide +kernel) (by decide +kernel) (by decide +kernel)
    have e : InfSt.go (alN 3 + 32 + 8 * nb kn8 (alN 3) 16) ([] ++ bys kn8 (alN 3 + 32) (nb kn8 (alN 3) 16)) = .go 48 [120] := by congr 1 <;> decide +kernel
    rw [e] at hd
    exact hd
  have h2 : InfSd kn8 100 51 [120] (.go 96 [120, 121]) := by
    have hd := InfSd.done (l := kn8) (lim := 100) (a := 51) (o := [120]) (by decide +kernel) (by decide +kernel) (by decide +kernel) (by decide +kernel)
    have e : InfSt.go (alN 51 + 32 + 8 * nb kn8 (alN 51) 16) ([120] ++ bys kn8 (alN 51 + 32) (nb kn8 (alN 51) 16)) = .go 96 [120, 121] := by congr 1 <;> decide +kernel
    rw [e] at hd
    exact hd
  exact .go 100 96 _ rfl (by decide) (.more 0 [] (by decide) (by decide +kernel) 48 _ (.stored (by decide) (by decide +kernel) _ h1) _ (.last 48 _ (by decide) (by decide +kernel) 96 _ (.stored (by decide) (by decide +kernel) _ h2)))
theorem kn9_e : Sy fixA kn9 3 256 0 7 := sy_fix (by decide) (by decide) (by decide) (by decide +kernel) (by decide +kernel) (by decide)
theorem kn9_at (lim : Nat) (h : lim ≤ 524288) : Infl kn9 (lim : Int) [] 2 0 :=
  .go lim 10 _ rfl h (.last 0 [] (by decide) (by decide +kernel) 10 _ (.fixed (by decide) (by decide +kernel) _ (.fin 3 10 _ (.fin 7 kn9_e))))
theorem kn10_i : Infl [1] 100 [] 0 50 := .no 100 50 rfl (by decide) (.no 0 [] (by decide) 50 (.stored (by decide) (by decide +kernel) _ (.few (by decide +kernel))))
theorem kn11_i : Infl [1, 3, 0, 252, 255] 2 [] 0 81 := .no 2 81 rfl (by decide) (.no 0 [] (by decide) 81 (.stored (by decide) (by decide +kernel) _ (.over (by decide +kernel) (by decide +kernel) (by decide +kernel))))

/-- Streams that are laid with one thing wrong. -/
theorem wr1 : Infl [3] 100 [] 0 50 := .no 100 50 rfl (by decide) (.no 0 [] (by decide) 50 (.fixed (by decide) (by decide +kernel) _ (.no 3 _ 50 (.bad 0 5 50 (fix_end (by decide) (by decide)) (by decide)))))
theorem wr2_s : Sy fixA [3, 2] 3 257 0 7 := sy_fix (by decide) (by decide) (by decide) (by decide +kernel) (by decide +kernel) (by decide)
theorem wr2_d : Sy fixD [3, 2] 10 0 0 5 := sy_of fixD_chk (by decide) (by decide) (by decide +kernel) (by decide +kernel) (by decide +kernel) (by decide)
theorem wr2 : Infl [3, 2] 100 [] 0 70 := .no 100 70 rfl (by decide) (.no 0 [] (by decide) 70 (.fixed (by decide) (by decide +kernel) _ (.no 3 _ 70 (.rep 257 7 _ wr2_s (by decide) (.dist (by decide) (by decide +kernel) 0 5 wr2_d (by decide) (by decide +kernel) (by decide +kernel))))))
theorem wr3_s : Sy fixA [27, 3] 3 286 0 8 := sy_fix (by decide) (by decide) (by decide) (by decide +kernel) (by decide +kernel) (by decide)
theorem wr3 : Infl [27, 3] 100 [] 0 80 := .no 100 80 rfl (by decide) (.no 0 [] (by decide) 80 (.fixed (by decide) (by decide +kernel) _ (.no 3 _ 80 (.rep 286 8 _ wr3_s (by decide) (.far (by decide))))))
end Go.Proofs.YtebfdoipogjpnaaGreat
