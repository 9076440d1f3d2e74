/- inflate, plainly: a stored block ahead of a stream; bytes behind it; its end. -/
import Derived.Test.YtajidlihepjegaaK842
namespace Go.Proofs.Ytajidlihepjegaa

theorem Trn.shift (p l : List Nat) (hp : ∀ b ∈ p, b < 256) : Trn l (p ++ l) (8 * l.length) (8 * p.length) :=
  ⟨fun a k _ => nb_shift p l hp a k, by rw [List.length_append]; omega, by omega⟩
theorem Trn.behind (l m : List Nat) : Trn l (l ++ m) (8 * l.length) 0 :=
  ⟨fun a k h => nb_ext l m a k h, by rw [List.length_append]; omega, rfl⟩
theorem nb_take (l : List Nat) (n a k : Nat) (hn : n ≤ l.length) (h : a + k ≤ 8 * n) : nb (l.take n) a k = nb l a k := by
  have := nb_ext (l.take n) (l.drop n) a k (by rw [List.length_take]; omega)
  rw [List.take_append_drop] at this
  exact this.symm
theorem Trn.prefix' (l : List Nat) (n : Nat) (hn : n ≤ l.length) : Trn l (l.take n) (8 * n) 0 :=
  ⟨fun a k h => nb_take l n a k hn h, by rw [List.length_take]; omega, rfl⟩

theorem nb_split (l : List Nat) (a j k : Nat) : nb l a (j + k) = nb l a j + 2 ^ j * nb l (a + j) k := by
  unfold nb
  rw [Nat.pow_add, Nat.mod_mul, Nat.pow_add, Nat.div_div_eq_div_mul]
theorem nb_byte {l : List Nat} (hb : ∀ b ∈ l, b < 256) {i : Nat} (hi : i < l.length) : nb l (8 * i) 8 = l[i] := by
  have := numB_get l hb i hi
  rw [p256] at this
  exact this
theorem nb_two {l : List Nat} (hb : ∀ b ∈ l, b < 256) {i : Nat} (hi : i + 1 < l.length) : nb l (8 * i) 16 = l[i] + 256 * l[i + 1] := by
  rw [show (16 : Nat) = 8 + 8 from rfl, nb_split, nb_byte hb (by omega), show 8 * i + 8 = 8 * (i + 1) by omega, nb_byte hb hi]
theorem bys_row {l : List Nat} (hb : ∀ b ∈ l, b < 256) (p m q : List Nat) (hl : l = p ++ (m ++ q)) : bys l (8 * p.length) m.length = m := by
  refine List.ext_getElem (by simp [bys]) (fun i h1 h2 => ?_)
  have hi : p.length + i < l.length := by rw [hl]; simp; omega
  simp only [bys, List.getElem_map, List.getElem_range]
  rw [show 8 * p.length + 8 * i = 8 * (p.length + i) by omega, nb_byte hb hi]
  subst hl
  rw [List.getElem_append_right (by omega)]
  simp only [Nat.add_sub_cancel_left]
  rw [List.getElem_append_left h2]

theorem InfRp.in' {D l : List Nat} {lim a x : Nat} {o : List Nat} {r : InfSt} (h : InfRp D l lim a x o r) : ∀ a' o', r = .go a' o' → a' ≤ 8 * l.length := by
  intro a' o' e
  cases h <;> cases e
  assumption
theorem InfTk.in' {A D l : List Nat} {lim a : Nat} {o : List Nat} {r : InfSt} (h : InfTk A D l lim a o r) : (∀ a' o', r = .go a' o' → a' ≤ 8 * l.length) ∧ ∀ a', r = .fin a' → a' ≤ 8 * l.length := by
  refine ⟨fun a' o' e => ?_, fun a' e => ?_⟩
  · cases h with
    | bad => cases e
    | fin => cases e
    | byte x s h => cases e; exact h.in'
    | full => cases e
    | rep x s r h h1 h2 => exact h2.in' a' o' e
  · cases h with
    | bad => cases e
    | fin s h => cases e; exact h.in'
    | byte => cases e
    | full => cases e
    | rep x s r h h1 h2 => subst e; cases h2
theorem InfToks.in' {A D l : List Nat} {lim a : Nat} {o : List Nat} {r : InfSt} (h : InfToks A D l lim a o r) : ∀ a' o', r = .go a' o' → a' ≤ 8 * l.length := by
  induction h with
  | fin a a' o h => intro x y e; cases e; exact h.in'.2 _ rfl
  | no => intro x y e; cases e
  | more a a' o o' r h h1 ih => exact ih
theorem InfBk.in' {l : List Nat} {lim a : Nat} {o : List Nat} {r : InfSt} (h : InfBk l lim a o r) : ∀ a' o', r = .go a' o' → a' ≤ 8 * l.length ∧ a + 2 ≤ a' := by
  intro a' o' e
  cases h with
  | few => cases e
  | stored h h1 r h2 =>
    subst e
    cases h2
    refine ⟨by assumption, ?_⟩
    unfold alN; omega
  | fixed h h1 r h2 => exact ⟨h2.in' _ _ e, h2.up _ _ e⟩
  | bad => cases e
  | dyn h h1 n a1 ls h2 r h3 => exact ⟨h3.in' _ _ e, by have := h3.up _ _ e; have := h2.up; omega⟩
  | unknown => cases e
theorem InfBl.in' {l : List Nat} {lim a : Nat} {o : List Nat} {r : InfSt} (h : InfBl l lim a o r) : ∀ a' o', r = .go a' o' → a' ≤ 8 * l.length ∧ a + 3 ≤ a' := by
  induction h with
  | few => intro a' o' e; cases e
  | no => intro a' o' e; cases e
  | last a o h h1 a1 o1 h2 => intro a' o' e; injection e with e1 e2; have := h2.in' _ _ rfl; omega
  | more a o h h1 a1 o1 h2 r h3 ih => intro a' o' e; have := ih a' o' e; have := h2.in' _ _ rfl; omega

theorem InfRp.fits {D l : List Nat} {lim a x : Nat} {o : List Nat} {r : InfSt} (h : InfRp D l lim a x o r) : ∀ a' o', r = .go a' o' → o'.length ≤ lim := by
  intro a' o' e
  cases h <;> cases e
  rw [ext_len]; assumption
theorem InfToks.fits {A D l : List Nat} {lim a : Nat} {o : List Nat} {r : InfSt} (h : InfToks A D l lim a o r) : o.length ≤ lim → ∀ a' o', r = .go a' o' → o'.length ≤ lim := by
  induction h with
  | fin a a' o h => intro h0 x y e; cases e; exact h0
  | no => intro h0 x y e; cases e
  | more a a' o o' r h h1 ih =>
    intro h0 x y e
    refine ih ?_ x y e
    cases h with
    | byte x s h h1 h2 => simp; omega
    | rep x s r h h1 h2 => exact h2.fits _ _ rfl
theorem InfBk.fits {l : List Nat} {lim a : Nat} {o : List Nat} {r : InfSt} (h : InfBk l lim a o r) (h0 : o.length ≤ lim) : ∀ a' o', r = .go a' o' → o'.length ≤ lim := by
  intro a' o' e
  cases h with
  | few => cases e
  | stored h h1 r h2 =>
    subst e
    cases h2
    rw [List.length_append, bys_len]; assumption
  | fixed h h1 r h2 => exact h2.fits h0 _ _ e
  | bad => cases e
  | dyn h h1 n a1 ls h2 r h3 => exact h3.fits h0 _ _ e
  | unknown => cases e
theorem InfBl.fits {l : List Nat} {lim a : Nat} {o : List Nat} {r : InfSt} (h : InfBl l lim a o r) : o.length ≤ lim → ∀ a' o', r = .go a' o' → o'.length ≤ lim := by
  induction h with
  | few => intro h0 a' o' e; cases e
  | no => intro h0 a' o' e; cases e
  | last a o h h1 a1 o1 h2 => intro h0 a' o' e; injection e with e1 e2; subst e2; exact h2.fits h0 _ _ rfl
  | more a o h h1 a1 o1 h2 r h3 ih => intro h0 a' o' e; exact ih (h2.fits h0 _ _ rfl) a' o' e

/-- What an answer without an error comes of. -/
theorem Infl.ok {l : List Nat} {limit : Int} {o : List Nat} {k : Nat} (h : Infl l limit o k 0) : ∃ (lim a : Nat), limit = (lim : Int) ∧ lim ≤ 524288 ∧ InfBl l lim 0 [] (.go a o) ∧ k = alN a / 8 ∧ a ≤ 8 * l.length ∧ 3 ≤ a ∧ o.length ≤ lim := by
  cases h with
  | go lim a _ h h1 h2 => exact ⟨lim, a, h, h1, h2, rfl, (h2.in' _ _ rfl).1, by have := (h2.in' _ _ rfl).2; omega, h2.fits (Nat.zero_le _) _ _ rfl⟩
  | no lim _ h h1 h2 => exact absurd rfl (h2.ne _ rfl)

/-- The head of a stored block of k bytes that is not the last one. -/
def hdr (k : Nat) : List Nat := [0, k % 256, k / 256, 255 - k % 256, 255 - k / 256]
theorem ahead {l block x : List Nat} {n : Nat} (hl : ∀ b ∈ l, b < 256) (hb : ∀ b ∈ block, b < 256) (hk : block.length ≤ 2000) (h : Infl l 5000 x n 0) :
    Infl ((hdr block.length ++ block) ++ l) 7000 (block ++ x) (n + block.length + 5) 0 := by
  obtain ⟨lim, a, h1, h2, h3, rfl, h5, h6, -⟩ := h.ok
  obtain rfl : lim = 5000 := by omega
  have hh : ∀ b ∈ hdr block.length, b < 256 := by
    intro b hb
    simp only [hdr, List.mem_cons, List.not_mem_nil, or_false] at hb
    omega
  have hp : ∀ b ∈ hdr block.length ++ block, b < 256 := fun b h => by
    rcases List.mem_append.1 h with h | h
    · exact hh b h
    · exact hb b h
  have hall : ∀ b ∈ (hdr block.length ++ block) ++ l, b < 256 := fun b h => by
    rcases List.mem_append.1 h with h | h
    · exact hp b h
    · exact hl b h
  have hlen : (hdr block.length ++ block).length = block.length + 5 := by simp only [hdr, List.length_append, List.length_cons, List.length_nil]; omega
  have hbys : bys ((hdr block.length ++ block) ++ l) 40 block.length = block := bys_row hall (hdr block.length) block l (by rw [List.append_assoc])
  have hrest := (Trn.shift (hdr block.length ++ block) l hp).bl (lim := 5000) (lim' := 7000) (q := block) (by omega) h3 a x rfl h5
  obtain ⟨L, hL⟩ : ∃ L, (hdr block.length ++ block) ++ l = L := ⟨_, rfl⟩
  have hL5 : L = 0 :: (block.length % 256) :: (block.length / 256) :: (255 - block.length % 256) :: (255 - block.length / 256) :: (block ++ l) := by rw [← hL]; rfl
  rw [hL] at hall hbys hrest ⊢
  have hLl : 5 + block.length ≤ L.length := by rw [hL5]; simp; omega
  have b0 : nb L 0 8 = 0 := by
    have := nb_byte hall (i := 0) (by omega)
    rw [this]; subst hL5; rfl
  have b1 : nb L 8 16 = block.length := by
    have := nb_two hall (i := 1) (by omega)
    rw [show 8 = 8 * 1 from rfl, this]
    subst hL5
    show block.length % 256 + 256 * (block.length / 256) = _
    omega
  have b3 : nb L 24 16 + block.length = 65535 := by
    have := nb_two hall (i := 3) (by omega)
    rw [show 24 = 8 * 3 from rfl, this]
    subst hL5
    show (255 - block.length % 256) + 256 * (255 - block.length / 256) + block.length = 65535
    omega
  have s0 := nb_split L 0 1 7
  have s1 := nb_split L 1 2 5
  have n0 : nb L 0 1 = 0 := by
    rw [show 1 + 7 = 8 from rfl, b0] at s0; omega
  have n1 : nb L 1 2 = 0 := by
    rw [show 1 + 7 = 8 from rfl, b0] at s0
    rw [show 2 + 5 = 7 from rfl] at s1
    rw [show 0 + 1 = 1 from rfl] at s0
    omega
  have e8 : alN 3 = 8 := by decide
  have hsd : InfSd L 7000 3 [] (.go (40 + 8 * block.length) block) := by
    have hd := InfSd.done (l := L) (lim := 7000) (a := 3) (o := []) (by rw [e8]; omega) (by rw [e8, b1]; exact b3) (by rw [e8, b1]; simp; omega) (by rw [e8, b1]; omega)
    refine Eq.mp (congrArg _ ?_) hd
    rw [e8, b1, hbys]
    rfl
  have hfin : InfBl L 7000 0 [] (.go (a + 8 * (block.length + 5)) (block ++ x)) := by
    refine .more 0 [] (by omega) (by rw [n0]; decide) _ _ (.stored (by omega) n1 _ hsd) _ ?_
    rw [hlen, Nat.zero_add, List.append_nil, show 8 * (block.length + 5) = 40 + 8 * block.length by omega] at hrest
    rw [show a + 8 * (block.length + 5) = a + (40 + 8 * block.length) by omega]
    exact hrest
  have := Infl.go (l := L) (limit := 7000) 7000 _ _ rfl (by decide) hfin
  refine Eq.mp (congrArg (fun z => Infl L 7000 (block ++ x) z 0) ?_) this
  unfold alN; omega

end Go.Proofs.Ytajidlihepjegaa
