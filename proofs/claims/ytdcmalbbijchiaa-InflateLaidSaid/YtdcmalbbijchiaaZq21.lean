/- Layer 8, plainly: what a deflated stream tells, step by step: numbers, symbols, repetitions, blocks; each step's answer, or its error. -/
import Derived.Test.YtdcmalbbijchiaaZq20
namespace Go.Proofs.Ytdcmalbbijchiaa

/-- Where a step leads: the block ends; so many bits were read and these bytes came; an error. -/
inductive InfSt where
  | fin (a : Nat)
  | go (a : Nat) (o : List Nat)
  | no (e : Int)

/-- The number of the k bits from a on. -/
def nb (l : List Nat) (a k : Nat) : Nat := numB l / 2 ^ a % 2 ^ k
theorem nb_lt (l : List Nat) (a k : Nat) : nb l a k < 2 ^ k := Nat.mod_lt _ (Nat.two_pow_pos k)
theorem nb_zero (l : List Nat) (a : Nat) : nb l a 0 = 0 := by unfold nb; rw [Nat.pow_zero, Nat.mod_one]

/-- What reading a symbol answers, by lengths: a symbol, an error, how many bits. -/
def Sy (ls l : List Nat) (a x : Nat) (e : Int) (s : Nat) : Prop := ∃ F L, ToldF (lq ls) ls.length 15 0 F ∧ ToldM (lq ls) ls.length 15 0 L ∧ RdAns F L l a x e s

/-- Two answers to one question are one. -/
theorem RdAns.only {F : Nat × Nat → Option Nat} {L : Nat} {l : List Nat} {a x x' : Nat} {e e' : Int} {s s' : Nat} (h : RdAns F L l a x e s) (h' : RdAns F L l a x' e' s') : x = x' ∧ e = e' ∧ s = s' := by
  have key : ∀ {x x' : Nat} {e e' : Int} {s s' : Nat}, RdAns F L l a x e s → RdAns F L l a x' e' s' → ¬ s < s' := fun {x x' e e' s s'} h h' hlt => by
    have h1 := h'.no s
    have h2 := h'.le
    rcases h.ans with ⟨-, p, q⟩ | ⟨-, -, p, -⟩ | ⟨-, -, -, p, -⟩
    · rw [h1 p hlt] at q; cases q
    · omega
    · omega
  have e1 := key h h'
  have e2 := key h' h
  obtain rfl : s = s' := by omega
  rcases h.ans with ⟨p1, p2, p3⟩ | ⟨p1, p2, p3, p4⟩ | ⟨p1, p2, p3, p4, p5⟩ <;> rcases h'.ans with ⟨q1, q2, q3⟩ | ⟨q1, q2, q3, q4⟩ | ⟨q1, q2, q3, q4, q5⟩
  · rw [p3] at q3; injection q3 with q3; exact ⟨q3, by rw [p1, q1], rfl⟩
  · rw [q4 p2] at p3; cases p3
  · rw [q5 p2] at p3; cases p3
  · rw [p4 q2] at q3; cases q3
  · exact ⟨by rw [p2, q2], by rw [p1, q1], rfl⟩
  · omega
  · rw [p5 q2] at q3; cases q3
  · omega
  · exact ⟨by rw [p2, q2], by rw [p1, q1], rfl⟩

/-- A table tells its lengths alone: the same codes in two worlds are one function. -/
theorem ToldF.only {ls : List Nat} {F G : Nat × Nat → Option Nat} (h : ToldF (lq ls) ls.length 15 0 F) (k : ToldF (lq ls) ls.length 15 0 G) : F = G := by
  funext q
  have go : ∀ {F G : Nat × Nat → Option Nat}, ToldF (lq ls) ls.length 15 0 F → ToldF (lq ls) ls.length 15 0 G → ∀ x, F q = some x → G q = some x := fun {F G} h k x hx => by
    obtain ⟨h1, h2, h3⟩ := h.out q x hx
    have := k.has x h1 h2
    rw [h3]; exact this
  cases hF : F q with
  | none =>
    cases hG : G q with
    | none => rfl
    | some y => rw [go k h y hG] at hF; cases hF
  | some x => exact (go h k x hF).symm
theorem ToldM.only {f : Nat → Nat} {N n k L L' : Nat} (h : ToldM f N n k L) (h' : ToldM f N n k L') : L = L' := by
  have go : ∀ {L L' : Nat}, ToldM f N n k L → ToldM f N n k L' → L ≤ L' := fun {L L'} h h' => by
    rcases h.le with h0 | ⟨i, i1, i2, i3⟩
    · omega
    · rw [← i3]; exact h'.ge i i1 i2
  exact Nat.le_antisymm (go h h') (go h' h)
/-- Reading a symbol has one answer. -/
theorem Sy.only {ls l : List Nat} {a x x' : Nat} {e e' : Int} {s s' : Nat} (h : Sy ls l a x e s) (h' : Sy ls l a x' e' s') : x = x' ∧ e = e' ∧ s = s' := by
  obtain ⟨F, L, h1, h2, h3⟩ := h
  obtain ⟨G, K, k1, k2, k3⟩ := h'
  obtain rfl := h1.only k1
  obtain rfl := h2.only k2
  exact h3.only k3

/-- Steps that tell numbers: how many bits more, and what is told without them. -/
def stpBits (st each : Nat) : Nat := if st < 2 * each then 0 else st / each - 1
def stpBase (st each : Nat) : Nat := if st < 2 * each then st else (each + st % each) * 2 ^ (st / each - 1)
def lnBits (x : Nat) : Nat := if x = 285 then 0 else stpBits (x - 257) 4
def lnBase (x : Nat) : Nat := if x = 285 then 258 else 3 + stpBase (x - 257) 4
def dsBits (y : Nat) : Nat := stpBits y 2
def dsBase (y : Nat) : Nat := 1 + stpBase y 2

/-- So many bytes more, each the one that stands d ahead of it. -/
def ext (d : Nat) : Nat → List Nat → List Nat
  | 0, o => o
  | n + 1, o => ext d n (o ++ [o.getD (o.length - d) 0])
theorem ext_len (d : Nat) : ∀ (n : Nat) (o : List Nat), (ext d n o).length = o.length + n
  | 0, _ => rfl
  | n + 1, o => by rw [ext, ext_len d n]; simp; omega

/-- A repetition, behind its symbol x. -/
inductive InfRp (D l : List Nat) (lim a x : Nat) (o : List Nat) : InfSt → Prop where
  | far (h : 285 < x) : InfRp D l lim a x o (.no 80)
  | few (h : x ≤ 285) (h1 : 8 * l.length < a + lnBits x) : InfRp D l lim a x o (.no 50)
  | bad (h : x ≤ 285) (h1 : a + lnBits x ≤ 8 * l.length) (y t : Nat) (e : Int) (h2 : Sy D l (a + lnBits x) y e t) (h3 : e ≠ 0) : InfRp D l lim a x o (.no e)
  | wide (h : x ≤ 285) (h1 : a + lnBits x ≤ 8 * l.length) (y t : Nat) (h2 : Sy D l (a + lnBits x) y 0 t) (h3 : 29 < y) : InfRp D l lim a x o (.no 80)
  | few2 (h : x ≤ 285) (h1 : a + lnBits x ≤ 8 * l.length) (y t : Nat) (h2 : Sy D l (a + lnBits x) y 0 t) (h3 : y ≤ 29) (h4 : 8 * l.length < a + lnBits x + t + dsBits y) : InfRp D l lim a x o (.no 50)
  | dist (h : x ≤ 285) (h1 : a + lnBits x ≤ 8 * l.length) (y t : Nat) (h2 : Sy D l (a + lnBits x) y 0 t) (h3 : y ≤ 29) (h4 : a + lnBits x + t + dsBits y ≤ 8 * l.length)
      (h5 : o.length < dsBase y + nb l (a + lnBits x + t) (dsBits y)) : InfRp D l lim a x o (.no 70)
  | over (h : x ≤ 285) (h1 : a + lnBits x ≤ 8 * l.length) (y t : Nat) (h2 : Sy D l (a + lnBits x) y 0 t) (h3 : y ≤ 29) (h4 : a + lnBits x + t + dsBits y ≤ 8 * l.length)
      (h5 : dsBase y + nb l (a + lnBits x + t) (dsBits y) ≤ o.length) (h6 : lim < o.length + (lnBase x + nb l a (lnBits x))) : InfRp D l lim a x o (.no 81)
  | done (h : x ≤ 285) (h1 : a + lnBits x ≤ 8 * l.length) (y t : Nat) (h2 : Sy D l (a + lnBits x) y 0 t) (h3 : y ≤ 29) (h4 : a + lnBits x + t + dsBits y ≤ 8 * l.length)
      (h5 : dsBase y + nb l (a + lnBits x + t) (dsBits y) ≤ o.length) (h6 : o.length + (lnBase x + nb l a (lnBits x)) ≤ lim) :
      InfRp D l lim a x o (.go (a + lnBits x + t + dsBits y) (ext (dsBase y + nb l (a + lnBits x + t) (dsBits y)) (lnBase x + nb l a (lnBits x)) o))

/-- One symbol of a block, and what belongs to it. -/
inductive InfTk (A D l : List Nat) (lim a : Nat) (o : List Nat) : InfSt → Prop where
  | bad (x s : Nat) (e : Int) (h : Sy A l a x e s) (h1 : e ≠ 0) : InfTk A D l lim a o (.no e)
  | fin (s : Nat) (h : Sy A l a 256 0 s) : InfTk A D l lim a o (.fin (a + s))
  | byte (x s : Nat) (h : Sy A l a x 0 s) (h1 : x < 256) (h2 : o.length < lim) : InfTk A D l lim a o (.go (a + s) (o ++ [x]))
  | full (x s : Nat) (h : Sy A l a x 0 s) (h1 : x < 256) (h2 : lim ≤ o.length) : InfTk A D l lim a o (.no 81)
  | rep (x s : Nat) (r : InfSt) (h : Sy A l a x 0 s) (h1 : 256 < x) (h2 : InfRp D l lim (a + s) x o r) : InfTk A D l lim a o r

/-- The symbols of a block, up to its end. -/
inductive InfToks (A D l : List Nat) (lim : Nat) : Nat → List Nat → InfSt → Prop where
  | fin (a a' : Nat) (o : List Nat) (h : InfTk A D l lim a o (.fin a')) : InfToks A D l lim a o (.go a' o)
  | no (a : Nat) (o : List Nat) (e : Int) (h : InfTk A D l lim a o (.no e)) : InfToks A D l lim a o (.no e)
  | more (a a' : Nat) (o o' : List Nat) (r : InfSt) (h : InfTk A D l lim a o (.go a' o')) (h1 : InfToks A D l lim a' o' r) : InfToks A D l lim a o r

/-- The bytes of eight bits each from a on. -/
def bys (l : List Nat) (a n : Nat) : List Nat := (List.range n).map fun i => nb l (a + 8 * i) 8

def alN (n : Nat) : Nat := n + (8 - n % 8) % 8

/-- A stored block. -/
inductive InfSd (l : List Nat) (lim a : Nat) (o : List Nat) : InfSt → Prop where
  | few (h : 8 * l.length < alN a + 32) : InfSd l lim a o (.no 50)
  | bad (h : alN a + 32 ≤ 8 * l.length) (h1 : nb l (alN a + 16) 16 + nb l (alN a) 16 ≠ 65535) : InfSd l lim a o (.no 80)
  | over (h : alN a + 32 ≤ 8 * l.length) (h1 : nb l (alN a + 16) 16 + nb l (alN a) 16 = 65535) (h2 : lim < o.length + nb l (alN a) 16) : InfSd l lim a o (.no 81)
  | few2 (h : alN a + 32 ≤ 8 * l.length) (h1 : nb l (alN a + 16) 16 + nb l (alN a) 16 = 65535) (h2 : o.length + nb l (alN a) 16 ≤ lim) (h3 : 8 * l.length < alN a + 32 + 8 * nb l (alN a) 16) : InfSd l lim a o (.no 50)
  | done (h : alN a + 32 ≤ 8 * l.length) (h1 : nb l (alN a + 16) 16 + nb l (alN a) 16 = 65535) (h2 : o.length + nb l (alN a) 16 ≤ lim) (h3 : alN a + 32 + 8 * nb l (alN a) 16 ≤ 8 * l.length) :
      InfSd l lim a o (.go (alN a + 32 + 8 * nb l (alN a) 16) (o ++ bys l (alN a + 32) (nb l (alN a) 16)))

/-- Lengths of a code that are told one behind the other: one more step of n that there must be. -/
inductive InfSv (C l : List Nat) (n a : Nat) (ls : List Nat) : InfSt → Prop where
  | bad (x s : Nat) (e : Int) (h : Sy C l a x e s) (h1 : e ≠ 0) : InfSv C l n a ls (.no e)
  | first (s : Nat) (h : Sy C l a 16 0 s) (h1 : ls.length = 0) : InfSv C l n a ls (.no 80)
  | few (x s k c v : Nat) (h : Sy C l a x 0 s) (h1 : x = 16 ∧ 0 < ls.length ∧ k = 2 ∧ c = 3 ∧ v = ls.getD (ls.length - 1) 0 ∨ x = 17 ∧ k = 3 ∧ c = 3 ∧ v = 0 ∨ x = 18 ∧ k = 7 ∧ c = 11 ∧ v = 0 ∨ x < 16 ∧ k = 0 ∧ c = 1 ∧ v = x)
      (h2 : 8 * l.length < a + s + k) : InfSv C l n a ls (.no 50)
  | many (x s k c v : Nat) (h : Sy C l a x 0 s) (h1 : x = 16 ∧ 0 < ls.length ∧ k = 2 ∧ c = 3 ∧ v = ls.getD (ls.length - 1) 0 ∨ x = 17 ∧ k = 3 ∧ c = 3 ∧ v = 0 ∨ x = 18 ∧ k = 7 ∧ c = 11 ∧ v = 0 ∨ x < 16 ∧ k = 0 ∧ c = 1 ∧ v = x)
      (h2 : a + s + k ≤ 8 * l.length) (h3 : n < ls.length + (c + nb l (a + s) k)) : InfSv C l n a ls (.no 80)
  | go (x s k c v : Nat) (h : Sy C l a x 0 s) (h1 : x = 16 ∧ 0 < ls.length ∧ k = 2 ∧ c = 3 ∧ v = ls.getD (ls.length - 1) 0 ∨ x = 17 ∧ k = 3 ∧ c = 3 ∧ v = 0 ∨ x = 18 ∧ k = 7 ∧ c = 11 ∧ v = 0 ∨ x < 16 ∧ k = 0 ∧ c = 1 ∧ v = x)
      (h2 : a + s + k ≤ 8 * l.length) (h3 : ls.length + (c + nb l (a + s) k) ≤ n) : InfSv C l n a ls (.go (a + s + k) (ls ++ List.replicate (c + nb l (a + s) k) v))

inductive InfLs (C l : List Nat) (n : Nat) : Nat → List Nat → InfSt → Prop where
  | fin (a : Nat) (ls : List Nat) (h : n ≤ ls.length) : InfLs C l n a ls (.go a ls)
  | no (a : Nat) (ls : List Nat) (e : Int) (h0 : ls.length < n) (h : InfSv C l n a ls (.no e)) : InfLs C l n a ls (.no e)
  | more (a a' : Nat) (ls ls' : List Nat) (r : InfSt) (h0 : ls.length < n) (h : InfSv C l n a ls (.go a' ls')) (h1 : InfLs C l n a' ls' r) : InfLs C l n a ls r

/-- The order in which the lengths of the lengths' code are told. -/
def ordL : List Nat := [16, 17, 18, 0, 8, 7, 9, 6, 10, 5, 11, 4, 12, 3, 13, 2, 14, 1, 15]
/-- .. and those lengths, after k of them. -/
def clF (l : List Nat) (a : Nat) : Nat → Nat → Nat
  | 0 => fun _ => 0
  | k + 1 => fun i => if i = ordL.getD k 0 then nb l (a + 3 * k) 3 else clF l a k i
def clL (l : List Nat) (a k : Nat) : List Nat := (List.range 19).map (clF l a k)

/-- A dynamic block's own codes: the lengths of symbols and of distances one behind the other, of which so many are the symbols'; or an error. -/
inductive InfDy (l : List Nat) (a : Nat) : Nat → InfSt → Prop where
  | few (h : 8 * l.length < a + 14) : InfDy l a 0 (.no 50)
  | many (h : a + 14 ≤ 8 * l.length) (h1 : 286 < nb l a 5 + 257 ∨ 30 < nb l (a + 5) 5 + 1) : InfDy l a 0 (.no 80)
  | few2 (h : a + 14 ≤ 8 * l.length) (h1 : nb l a 5 + 257 ≤ 286 ∧ nb l (a + 5) 5 + 1 ≤ 30) (h2 : 8 * l.length < a + 14 + 3 * (nb l (a + 10) 4 + 4)) : InfDy l a 0 (.no 50)
  | code (h : a + 14 ≤ 8 * l.length) (h1 : nb l a 5 + 257 ≤ 286 ∧ nb l (a + 5) 5 + 1 ≤ 30) (h2 : a + 14 + 3 * (nb l (a + 10) 4 + 4) ≤ 8 * l.length)
      (h3 : chk (clL l (a + 14) (nb l (a + 10) 4 + 4)) ≠ 0) : InfDy l a 0 (.no (chk (clL l (a + 14) (nb l (a + 10) 4 + 4))))
  | lens (h : a + 14 ≤ 8 * l.length) (h1 : nb l a 5 + 257 ≤ 286 ∧ nb l (a + 5) 5 + 1 ≤ 30) (h2 : a + 14 + 3 * (nb l (a + 10) 4 + 4) ≤ 8 * l.length)
      (h3 : chk (clL l (a + 14) (nb l (a + 10) 4 + 4)) = 0) (e : Int) (h4 : InfLs (clL l (a + 14) (nb l (a + 10) 4 + 4)) l (nb l a 5 + 257 + (nb l (a + 5) 5 + 1)) (a + 14 + 3 * (nb l (a + 10) 4 + 4)) [] (.no e)) : InfDy l a 0 (.no e)
  | last (h : a + 14 ≤ 8 * l.length) (h1 : nb l a 5 + 257 ≤ 286 ∧ nb l (a + 5) 5 + 1 ≤ 30) (h2 : a + 14 + 3 * (nb l (a + 10) 4 + 4) ≤ 8 * l.length)
      (h3 : chk (clL l (a + 14) (nb l (a + 10) 4 + 4)) = 0) (a' : Nat) (ls : List Nat) (h4 : InfLs (clL l (a + 14) (nb l (a + 10) 4 + 4)) l (nb l a 5 + 257 + (nb l (a + 5) 5 + 1)) (a + 14 + 3 * (nb l (a + 10) 4 + 4)) [] (.go a' ls))
      (e : Int) (h5 : lq ls 256 = 0 ∧ e = 80 ∨ lq ls 256 ≠ 0 ∧ chk (ls.take (nb l a 5 + 257)) ≠ 0 ∧ e = chk (ls.take (nb l a 5 + 257))
        ∨ lq ls 256 ≠ 0 ∧ chk (ls.take (nb l a 5 + 257)) = 0 ∧ chk (ls.drop (nb l a 5 + 257)) ≠ 0 ∧ e = chk (ls.drop (nb l a 5 + 257))) : InfDy l a 0 (.no e)
  | done (h : a + 14 ≤ 8 * l.length) (h1 : nb l a 5 + 257 ≤ 286 ∧ nb l (a + 5) 5 + 1 ≤ 30) (h2 : a + 14 + 3 * (nb l (a + 10) 4 + 4) ≤ 8 * l.length)
      (h3 : chk (clL l (a + 14) (nb l (a + 10) 4 + 4)) = 0) (a' : Nat) (ls : List Nat) (h4 : InfLs (clL l (a + 14) (nb l (a + 10) 4 + 4)) l (nb l a 5 + 257 + (nb l (a + 5) 5 + 1)) (a + 14 + 3 * (nb l (a + 10) 4 + 4)) [] (.go a' ls))
      (h5 : lq ls 256 ≠ 0 ∧ chk (ls.take (nb l a 5 + 257)) = 0 ∧ chk (ls.drop (nb l a 5 + 257)) = 0) : InfDy l a (nb l a 5 + 257) (.go a' ls)

def fixA : List Nat := List.replicate 144 8 ++ List.replicate 112 9 ++ List.replicate 24 7 ++ List.replicate 8 8
def fixD : List Nat := List.replicate 32 5

/-- One block, behind its first bit. -/
inductive InfBk (l : List Nat) (lim a : Nat) (o : List Nat) : InfSt → Prop where
  | few (h : 8 * l.length < a + 2) : InfBk l lim a o (.no 50)
  | stored (h : a + 2 ≤ 8 * l.length) (h1 : nb l a 2 = 0) (r : InfSt) (h2 : InfSd l lim (a + 2) o r) : InfBk l lim a o r
  | fixed (h : a + 2 ≤ 8 * l.length) (h1 : nb l a 2 = 1) (r : InfSt) (h2 : InfToks fixA fixD l lim (a + 2) o r) : InfBk l lim a o r
  | bad (h : a + 2 ≤ 8 * l.length) (h1 : nb l a 2 = 2) (e : Int) (h2 : InfDy l (a + 2) 0 (.no e)) : InfBk l lim a o (.no e)
  | dyn (h : a + 2 ≤ 8 * l.length) (h1 : nb l a 2 = 2) (n a' : Nat) (ls : List Nat) (h2 : InfDy l (a + 2) n (.go a' ls)) (r : InfSt) (h3 : InfToks (ls.take n) (ls.drop n) l lim a' o r) : InfBk l lim a o r
  | unknown (h : a + 2 ≤ 8 * l.length) (h1 : nb l a 2 = 3) : InfBk l lim a o (.no 80)

/-- All blocks. -/
inductive InfBl (l : List Nat) (lim : Nat) : Nat → List Nat → InfSt → Prop where
  | few (a : Nat) (o : List Nat) (h : 8 * l.length < a + 1) : InfBl l lim a o (.no 50)
  | no (a : Nat) (o : List Nat) (h : a + 1 ≤ 8 * l.length) (e : Int) (h1 : InfBk l lim (a + 1) o (.no e)) : InfBl l lim a o (.no e)
  | last (a : Nat) (o : List Nat) (h : a + 1 ≤ 8 * l.length) (h1 : nb l a 1 = 1) (a' : Nat) (o' : List Nat) (h2 : InfBk l lim (a + 1) o (.go a' o')) : InfBl l lim a o (.go a' o')
  | more (a : Nat) (o : List Nat) (h : a + 1 ≤ 8 * l.length) (h1 : nb l a 1 ≠ 1) (a' : Nat) (o' : List Nat) (h2 : InfBk l lim (a + 1) o (.go a' o')) (r : InfSt) (h3 : InfBl l lim a' o' r) : InfBl l lim a o r

end Go.Proofs.Ytdcmalbbijchiaa
