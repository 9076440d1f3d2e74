/- Several texts in one, each with its own head. -/
import Derived.Test.YtebfdoipogjpnaaGreatQd14
import Derived.Test.YtebfdoipogjpnaaGreatQd15
/- Lengths that make a code give every symbol a code of its own (plain facts). -/
namespace Go.Proofs.YtebfdoipogjpnaaGreat

theorem trn_inj : ∀ n r x r' x', x < 2 ^ n → x' < 2 ^ n → trn n r x = trn n r' x' → r = r' ∧ x = x'
  | 0, r, x, r', x', h1, h2, h => by
    simp only [Nat.pow_zero] at h1 h2
    exact ⟨h, by omega⟩
  | n + 1, r, x, r', x', h1, h2, h => by
    rw [trn, trn] at h
    rw [Nat.pow_succ] at h1 h2
    obtain ⟨a, b⟩ := trn_inj n _ _ _ _ (by omega) (by omega) h
    omega

/-- The room that the codes of at most n bits take. -/
def rt (f : Nat → Nat) (n N : Nat) : Nat := sm N fun i => if 0 < f i ∧ f i ≤ n then 2 ^ (15 - f i) else 0
theorem rt_succ (f : Nat → Nat) (n N : Nat) : rt f n (N + 1) = rt f n N + (if 0 < f N ∧ f N ≤ n then 2 ^ (15 - f N) else 0) := rfl
theorem rt_next (f : Nat → Nat) (n : Nat) : ∀ N, rt f (n + 1) N = rt f n N + cn f (n + 1) N * 2 ^ (15 - (n + 1))
  | 0 => by simp [rt, cn, sm]
  | N + 1 => by
    rw [rt_succ, rt_succ, rt_next f n N, cn_succ, Nat.add_mul]
    by_cases h : f N = n + 1
    · rw [if_pos (by omega), if_neg (by omega), if_pos h, h]; omega
    · rw [if_neg h]
      by_cases h2 : 0 < f N ∧ f N ≤ n
      · rw [if_pos (by omega), if_pos h2]; omega
      · rw [if_neg (by omega), if_neg h2]; omega
theorem rt_le (f : Nat → Nat) (n : Nat) : ∀ N, rt f n N ≤ room N 15 f
  | 0 => by simp [rt, sm]
  | N + 1 => by
    have := rt_le f n N
    rw [rt_succ, room_succ]
    by_cases h : 0 < f N ∧ f N ≤ n
    · rw [if_pos h, if_pos h.1]; omega
    · rw [if_neg h]; omega
theorem rt_en (f : Nat → Nat) (N : Nat) : ∀ n, n ≤ 15 → en f N n * 2 ^ (15 - n) = rt f n N
  | 0, _ => by
    rw [en, Nat.zero_mul]
    have : ∀ N, rt f 0 N = 0 := fun N => by
      induction N with
      | zero => rfl
      | succ N ih => rw [rt_succ, ih, if_neg (by omega)]
    rw [this]
  | n + 1, h => by
    rw [en, Nat.add_mul, rt_next, ← rt_en f N n (by omega), show 15 - n = (15 - (n + 1)) + 1 by omega, Nat.pow_succ]
    congr 1
    rw [Nat.mul_assoc, Nat.mul_comm 2]
theorem en_fits {f : Nat → Nat} {N n : Nat} (hr : room N 15 f ≤ 32768) (hn : n ≤ 15) : en f N n ≤ 2 ^ n := by
  have h1 := rt_en f N n hn
  have h2 := rt_le f n N
  have h3 : 2 ^ n * 2 ^ (15 - n) = 32768 := by rw [← Nat.pow_add, show n + (15 - n) = 15 by omega]
  have h4 : 0 < 2 ^ (15 - n) := Nat.two_pow_pos _
  exact Nat.le_of_mul_le_mul_right (by omega) h4
theorem cn_lt {f : Nat → Nat} {n N k : Nat} (hk : k < N) (h : f k = n) : cn f n k < cn f n N := by
  have mono : ∀ a b, a ≤ b → cn f n a ≤ cn f n b := fun a b hab => by
    induction b with
    | zero => obtain rfl : a = 0 := by omega
              exact Nat.le_refl _
    | succ b ih =>
      rcases Nat.lt_or_ge a (b + 1) with h1 | h1
      · have := ih (by omega)
        rw [cn_succ]; omega
      · obtain rfl : a = b + 1 := by omega
        exact Nat.le_refl _
  have h1 := mono (k + 1) N hk
  rw [cn_succ, if_pos h] at h1
  omega
theorem nx_fits {f : Nat → Nat} {N n k : Nat} (hr : room N 15 f ≤ 32768) (hn : n < 15) (hk : k < N) (h : f k = n + 1) : nx f N n k < 2 ^ (n + 1) := by
  have h1 := en_fits (n := n + 1) hr hn
  have h2 := cn_lt hk h
  rw [en] at h1
  unfold nx
  omega

theorem apt_of {f : Nat → Nat} {N : Nat} (hr : room N 15 f ≤ 32768) (h15 : ∀ i, i < N → f i ≤ 15) : Apt f N := by
  intro i j hi hj h0 he hc
  unfold cd at hc
  obtain ⟨n, hn⟩ : ∃ n, f i = n + 1 := ⟨f i - 1, by omega⟩
  have hnj : f j = n + 1 := by omega
  have hb := h15 i hi
  rw [hn, hnj, Nat.add_sub_cancel] at hc
  have h1 := (trn_inj (n + 1) _ _ _ _ (nx_fits hr (by omega) hi hn) (nx_fits hr (by omega) hj hnj) hc).2
  unfold nx at h1
  rcases Nat.lt_trichotomy i j with h2 | h2 | h2
  · have := cn_lt (f := f) (n := n + 1) h2 hn; omega
  · exact h2
  · have := cn_lt (f := f) (n := n + 1) h2 hnj; omega

theorem room_of_chk {ls : List Nat} (h : chk ls = 0) : room ls.length 15 (lq ls) ≤ 32768 := by
  obtain ⟨-, -, h3⟩ := chk_zero h
  rcases h3 with h3 | h3 | h3
  · have : ∀ k, many k (lq ls) = 0 → room k 15 (lq ls) = 0 := fun k => by
      induction k with
      | zero => intro _; rfl
      | succ k ih =>
        intro hk
        rw [many_succ] at hk
        rw [room_succ, ih (by omega)]
        split at hk
        · omega
        · rename_i hh; rw [if_neg hh]
    rw [this _ h3]; omega
  · omega
  · omega

theorem apt_chk {ls : List Nat} (h : chk ls = 0) : Apt (lq ls) ls.length := apt_of (room_of_chk h) (chk_zero h).2.1

end Go.Proofs.YtebfdoipogjpnaaGreat

/- Layer 8, plainly: what a deflated stream tells, step by step: numbers, symbols, repetitions, blocks; each step's answer, or its error. -/
namespace Go.Proofs.YtebfdoipogjpnaaGreat

/-- Where a step leads: the block ends; so many bits were read and these bytes came; an error. -/
inductive InfSt where
  | fin (a : Nat)
  | go (a : Nat) (o : List Nat)
  | no (e : Int)

/-- The number of the k bits from a on. -/
def nb (l : List Nat) (a k : Nat) : Nat := numB l / 2 ^ a % 2 ^ k
theorem nb_lt (l : List Nat) (a k : Nat) : nb l a k < 2 ^ k := Nat.mod_lt _ (Nat.two_pow_pos k)
theorem nb_zero (l : List Nat) (a : Nat) : nb l a 0 = 0 := by unfold nb; rw [Nat.pow_zero, Nat.mod_one]

/-- What reading a symbol answers, by lengths: a symbol, an error, how many bits. -/
def Sy (ls l : List Nat) (a x : Nat) (e : Int) (s : Nat) : Prop := ∃ F L, ToldF (lq ls) ls.length 15 0 F ∧ ToldM (lq ls) ls.length 15 0 L ∧ RdAns F L l a x e s

/-- Two answers to one question are one. -/
theorem RdAns.only {F : Nat × Nat → Option Nat} {L : Nat} {l : List Nat} {a x x' : Nat} {e e' : Int} {s s' : Nat} (h : RdAns F L l a x e s) (h' : RdAns F L l a x' e' s') : x = x' ∧ e = e' ∧ s = s' := by
  have key : ∀ {x x' : Nat} {e e' : Int} {s s' : Nat}, RdAns F L l a x e s → RdAns F L l a x' e' s' → ¬ s < s' := fun {x x' e e' s s'} h h' hlt => by
    have h1 := h'.no s
    have h2 := h'.le
    rcases h.ans with ⟨-, p, q⟩ | ⟨-, -, p, -⟩ | ⟨-, -, -, p, -⟩
    · rw [h1 p hlt] at q; cases q
    · omega
    · omega
  have e1 := key h h'
  have e2 := key h' h
  obtain rfl : s = s' := by omega
  rcases h.ans with ⟨p1, p2, p3⟩ | ⟨p1, p2, p3, p4⟩ | ⟨p1, p2, p3, p4, p5⟩ <;> rcases h'.ans with ⟨q1, q2, q3⟩ | ⟨q1, q2, q3, q4⟩ | ⟨q1, q2, q3, q4, q5⟩
  · rw [p3] at q3; injection q3 with q3; exact ⟨q3, by rw [p1, q1], rfl⟩
  · rw [q4 p2] at p3; cases p3
  · rw [q5 p2] at p3; cases p3
  · rw [p4 q2] at q3; cases q3
  · exact ⟨by rw [p2, q2], by rw [p1, q1], rfl⟩
  · omega
  · rw [p5 q2] at q3; cases q3
  · omega
  · exact ⟨by rw [p2, q2], by rw [p1, q1], rfl⟩

/-- A table tells its lengths alone: the same codes in two worlds are one function. -/
theorem ToldF.only {ls : List Nat} {F G : Nat × Nat → Option Nat} (h : ToldF (lq ls) ls.length 15 0 F) (k : ToldF (lq ls) ls.length 15 0 G) : F = G := by
  funext q
  have go : ∀ {F G : Nat × Nat → Option Nat}, ToldF (lq ls) ls.length 15 0 F → ToldF (lq ls) ls.length 15 0 G → ∀ x, F q = some x → G q = some x := fun {F G} h k x hx => by
    obtain ⟨h1, h2, h3⟩ := h.out q x hx
    have := k.has x h1 h2
    rw [h3]; exact this
  cases hF : F q with
  | none =>
    cases hG : G q with
    | none => rfl
    | some y => rw [go k h y hG] at hF; cases hF
  | some x => exact (go h k x hF).symm
theorem ToldM.only {f : Nat → Nat} {N n k L L' : Nat} (h : ToldM f N n k L) (h' : ToldM f N n k L') : L = L' := by
  have go : ∀ {L L' : Nat}, ToldM f N n k L → ToldM f N n k L' → L ≤ L' := fun {L L'} h h' => by
    rcases h.le with h0 | ⟨i, i1, i2, i3⟩
    · omega
    · rw [← i3]; exact h'.ge i i1 i2
  exact Nat.le_antisymm (go h h') (go h' h)
/-- Reading a symbol has one answer. -/
theorem Sy.only {ls l : List Nat} {a x x' : Nat} {e e' : Int} {s s' : Nat} (h : Sy ls l a x e s) (h' : Sy ls l a x' e' s') : x = x' ∧ e = e' ∧ s = s' := by
  obtain ⟨F, L, h1, h2, h3⟩ := h
  obtain ⟨G, K, k1, k2, k3⟩ := h'
  obtain rfl := h1.only k1
  obtain rfl := h2.only k2
  exact h3.only k3

/-- Steps that tell numbers: how many bits more, and what is told without them. -/
def stpBits (st each : Nat) : Nat := if st < 2 * each then 0 else st / each - 1
def stpBase (st each : Nat) : Nat := if st < 2 * each then st else (each + st % each) * 2 ^ (st / each - 1)
def lnBits (x : Nat) : Nat := if x = 285 then 0 else stpBits (x - 257) 4
def lnBase (x : Nat) : Nat := if x = 285 then 258 else 3 + stpBase (x - 257) 4
def dsBits (y : Nat) : Nat := stpBits y 2
def dsBase (y : Nat) : Nat := 1 + stpBase y 2

/-- So many bytes more, each the one that stands d ahead of it. -/
def ext (d : Nat) : Nat → List Nat → List Nat
  | 0, o => o
  | n + 1, o => ext d n (o ++ [o.getD (o.length - d) 0])
theorem ext_len (d : Nat) : ∀ (n : Nat) (o : List Nat), (ext d n o).length = o.length + n
  | 0, _ => rfl
  | n + 1, o => by rw [ext, ext_len d n]; simp; omega

/-- A repetition, behind its symbol x. -/
inductive InfRp (D l : List Nat) (lim a x : Nat) (o : List Nat) : InfSt → Prop where
  | far (h : 285 < x) : InfRp D l lim a x o (.no 80)
  | few (h : x ≤ 285) (h1 : 8 * l.length < a + lnBits x) : InfRp D l lim a x o (.no 50)
  | bad (h : x ≤ 285) (h1 : a + lnBits x ≤ 8 * l.length) (y t : Nat) (e : Int) (h2 : Sy D l (a + lnBits x) y e t) (h3 : e ≠ 0) : InfRp D l lim a x o (.no e)
  | wide (h : x ≤ 285) (h1 : a + lnBits x ≤ 8 * l.length) (y t : Nat) (h2 : Sy D l (a + lnBits x) y 0 t) (h3 : 29 < y) : InfRp D l lim a x o (.no 80)
  | few2 (h : x ≤ 285) (h1 : a + lnBits x ≤ 8 * l.length) (y t : Nat) (h2 : Sy D l (a + lnBits x) y 0 t) (h3 : y ≤ 29) (h4 : 8 * l.length < a + lnBits x + t + dsBits y) : InfRp D l lim a x o (.no 50)
  | dist (h : x ≤ 285) (h1 : a + lnBits x ≤ 8 * l.length) (y t : Nat) (h2 : Sy D l (a + lnBits x) y 0 t) (h3 : y ≤ 29) (h4 : a + lnBits x + t + dsBits y ≤ 8 * l.length)
      (h5 : o.length < dsBase y + nb l (a + lnBits x + t) (dsBits y)) : InfRp D l lim a x o (.no 70)
  | over (h : x ≤ 285) (h1 : a + lnBits x ≤ 8 * l.length) (y t : Nat) (h2 : Sy D l (a + lnBits x) y 0 t) (h3 : y ≤ 29) (h4 : a + lnBits x + t + dsBits y ≤ 8 * l.length)
      (h5 : dsBase y + nb l (a + lnBits x + t) (dsBits y) ≤ o.length) (h6 : lim < o.length + (lnBase x + nb l a (lnBits x))) : InfRp D l lim a x o (.no 81)
  | done (h : x ≤ 285) (h1 : a + lnBits x ≤ 8 * l.length) (y t : Nat) (h2 : Sy D l (a + lnBits x) y 0 t) (h3 : y ≤ 29) (h4 : a + lnBits x + t + dsBits y ≤ 8 * l.length)
      (h5 : dsBase y + nb l (a + lnBits x + t) (dsBits y) ≤ o.length) (h6 : o.length + (lnBase x + nb l a (lnBits x)) ≤ lim) :
      InfRp D l lim a x o (.go (a + lnBits x + t + dsBits y) (ext (dsBase y + nb l (a + lnBits x + t) (dsBits y)) (lnBase x + nb l a (lnBits x)) o))

/-- One symbol of a block, and what belongs to it. -/
inductive InfTk (A D l : List Nat) (lim a : Nat) (o : List Nat) : InfSt → Prop where
  | bad (x s : Nat) (e : Int) (h : Sy A l a x e s) (h1 : e ≠ 0) : InfTk A D l lim a o (.no e)
  | fin (s : Nat) (h : Sy A l a 256 0 s) : InfTk A D l lim a o (.fin (a + s))
  | byte (x s : Nat) (h : Sy A l a x 0 s) (h1 : x < 256) (h2 : o.length < lim) : InfTk A D l lim a o (.go (a + s) (o ++ [x]))
  | full (x s : Nat) (h : Sy A l a x 0 s) (h1 : x < 256) (h2 : lim ≤ o.length) : InfTk A D l lim a o (.no 81)
  | rep (x s : Nat) (r : InfSt) (h : Sy A l a x 0 s) (h1 : 256 < x) (h2 : InfRp D l lim (a + s) x o r) : InfTk A D l lim a o r

/-- The symbols of a block, up to its end. -/
inductive InfToks (A D l : List Nat) (lim : Nat) : Nat → List Nat → InfSt → Prop where
  | fin (a a' : Nat) (o : List Nat) (h : InfTk A D l lim a o (.fin a')) : InfToks A D l lim a o (.go a' o)
  | no (a : Nat) (o : List Nat) (e : Int) (h : InfTk A D l lim a o (.no e)) : InfToks A D l lim a o (.no e)
  | more (a a' : Nat) (o o' : List Nat) (r : InfSt) (h : InfTk A D l lim a o (.go a' o')) (h1 : InfToks A D l lim a' o' r) : InfToks A D l lim a o r

/-- The bytes of eight bits each from a on. -/
def bys (l : List Nat) (a n : Nat) : List Nat := (List.range n).map fun i => nb l (a + 8 * i) 8

def alN (n : Nat) : Nat := n + (8 - n % 8) % 8

/-- A stored block. -/
inductive InfSd (l : List Nat) (lim a : Nat) (o : List Nat) : InfSt → Prop where
  | few (h : 8 * l.length < alN a + 32) : InfSd l lim a o (.no 50)
  | bad (h : alN a + 32 ≤ 8 * l.length) (h1 : nb l (alN a + 16) 16 + nb l (alN a) 16 ≠ 65535) : InfSd l lim a o (.no 80)
  | over (h : alN a + 32 ≤ 8 * l.length) (h1 : nb l (alN a + 16) 16 + nb l (alN a) 16 = 65535) (h2 : lim < o.length + nb l (alN a) 16) : InfSd l lim a o (.no 81)
  | few2 (h : alN a + 32 ≤ 8 * l.length) (h1 : nb l (alN a + 16) 16 + nb l (alN a) 16 = 65535) (h2 : o.length + nb l (alN a) 16 ≤ lim) (h3 : 8 * l.length < alN a + 32 + 8 * nb l (alN a) 16) : InfSd l lim a o (.no 50)
  | done (h : alN a + 32 ≤ 8 * l.length) (h1 : nb l (alN a + 16) 16 + nb l (alN a) 16 = 65535) (h2 : o.length + nb l (alN a) 16 ≤ lim) (h3 : alN a + 32 + 8 * nb l (alN a) 16 ≤ 8 * l.length) :
      InfSd l lim a o (.go (alN a + 32 + 8 * nb l (alN a) 16) (o ++ bys l (alN a + 32) (nb l (alN a) 16)))

/-- Lengths of a code that are told one behind the other: one more step of n that there must be. -/
inductive InfSv (C l : List Nat) (n a : Nat) (ls : List Nat) : InfSt → Prop where
  | bad (x s : Nat) (e : Int) (h : Sy C l a x e s) (h1 : e ≠ 0) : InfSv C l n a ls (.no e)
  | first (s : Nat) (h : Sy C l a 16 0 s) (h1 : ls.length = 0) : InfSv C l n a ls (.no 80)
  | few (x s k c v : Nat) (h : Sy C l a x 0 s) (h1 : x = 16 ∧ 0 < ls.length ∧ k = 2 ∧ c = 3 ∧ v = ls.getD (ls.length - 1) 0 ∨ x = 17 ∧ k = 3 ∧ c = 3 ∧ v = 0 ∨ x = 18 ∧ k = 7 ∧ c = 11 ∧ v = 0 ∨ x < 16 ∧ k = 0 ∧ c = 1 ∧ v = x)
      (h2 : 8 * l.length < a + s + k) : InfSv C l n a ls (.no 50)
  | many (x s k c v : Nat) (h : Sy C l a x 0 s) (h1 : x = 16 ∧ 0 < ls.length ∧ k = 2 ∧ c = 3 ∧ v = ls.getD (ls.length - 1) 0 ∨ x = 17 ∧ k = 3 ∧ c = 3 ∧ v = 0 ∨ x = 18 ∧ k = 7 ∧ c = 11 ∧ v = 0 ∨ x < 16 ∧ k = 0 ∧ c = 1 ∧ v = x)
      (h2 : a + s + k ≤ 8 * l.length) (h3 : n < ls.length + (c + nb l (a + s) k)) : InfSv C l n a ls (.no 80)
  | go (x s k c v : Nat) (h : Sy C l a x 0 s) (h1 : x = 16 ∧ 0 < ls.length ∧ k = 2 ∧ c = 3 ∧ v = ls.getD (ls.length - 1) 0 ∨ x = 17 ∧ k = 3 ∧ c = 3 ∧ v = 0 ∨ x = 18 ∧ k = 7 ∧ c = 11 ∧ v = 0 ∨ x < 16 ∧ k = 0 ∧ c = 1 ∧ v = x)
      (h2 : a + s + k ≤ 8 * l.length) (h3 : ls.length + (c + nb l (a + s) k) ≤ n) : InfSv C l n a ls (.go (a + s + k) (ls ++ List.replicate (c + nb l (a + s) k) v))

inductive InfLs (C l : List Nat) (n : Nat) : Nat → List Nat → InfSt → Prop where
  | fin (a : Nat) (ls : List Nat) (h : n ≤ ls.length) : InfLs C l n a ls (.go a ls)
  | no (a : Nat) (ls : List Nat) (e : Int) (h0 : ls.length < n) (h : InfSv C l n a ls (.no e)) : InfLs C l n a ls (.no e)
  | more (a a' : Nat) (ls ls' : List Nat) (r : InfSt) (h0 : ls.length < n) (h : InfSv C l n a ls (.go a' ls')) (h1 : InfLs C l n a' ls' r) : InfLs C l n a ls r

/-- The order in which the lengths of the lengths' code are told. -/
def ordL : List Nat := [16, 17, 18, 0, 8, 7, 9, 6, 10, 5, 11, 4, 12, 3, 13, 2, 14, 1, 15]
/-- .. and those lengths, after k of them. -/
def clF (l : List Nat) (a : Nat) : Nat → Nat → Nat
  | 0 => fun _ => 0
  | k + 1 => fun i => if i = ordL.getD k 0 then nb l (a + 3 * k) 3 else clF l a k i
def clL (l : List Nat) (a k : Nat) : List Nat := (List.range 19).map (clF l a k)

/-- A dynamic block's own codes: the lengths of symbols and of distances one behind the other, of which so many are the symbols'; or an error. -/
inductive InfDy (l : List Nat) (a : Nat) : Nat → InfSt → Prop where
  | few (h : 8 * l.length < a + 14) : InfDy l a 0 (.no 50)
  | many (h : a + 14 ≤ 8 * l.length) (h1 : 286 < nb l a 5 + 257 ∨ 30 < nb l (a + 5) 5 + 1) : InfDy l a 0 (.no 80)
  | few2 (h : a + 14 ≤ 8 * l.length) (h1 : nb l a 5 + 257 ≤ 286 ∧ nb l (a + 5) 5 + 1 ≤ 30) (h2 : 8 * l.length < a + 14 + 3 * (nb l (a + 10) 4 + 4)) : InfDy l a 0 (.no 50)
  | code (h : a + 14 ≤ 8 * l.length) (h1 : nb l a 5 + 257 ≤ 286 ∧ nb l (a + 5) 5 + 1 ≤ 30) (h2 : a + 14 + 3 * (nb l (a + 10) 4 + 4) ≤ 8 * l.length)
      (h3 : chk (clL l (a + 14) (nb l (a + 10) 4 + 4)) ≠ 0) : InfDy l a 0 (.no (chk (clL l (a + 14) (nb l (a + 10) 4 + 4))))
  | lens (h : a + 14 ≤ 8 * l.length) (h1 : nb l a 5 + 257 ≤ 286 ∧ nb l (a + 5) 5 + 1 ≤ 30) (h2 : a + 14 + 3 * (nb l (a + 10) 4 + 4) ≤ 8 * l.length)
      (h3 : chk (clL l (a + 14) (nb l (a + 10) 4 + 4)) = 0) (e : Int) (h4 : InfLs (clL l (a + 14) (nb l (a + 10) 4 + 4)) l (nb l a 5 + 257 + (nb l (a + 5) 5 + 1)) (a + 14 + 3 * (nb l (a + 10) 4 + 4)) [] (.no e)) : InfDy l a 0 (.no e)
  | last (h : a + 14 ≤ 8 * l.length) (h1 : nb l a 5 + 257 ≤ 286 ∧ nb l (a + 5) 5 + 1 ≤ 30) (h2 : a + 14 + 3 * (nb l (a + 10) 4 + 4) ≤ 8 * l.length)
      (h3 : chk (clL l (a + 14) (nb l (a + 10) 4 + 4)) = 0) (a' : Nat) (ls : List Nat) (h4 : InfLs (clL l (a + 14) (nb l (a + 10) 4 + 4)) l (nb l a 5 + 257 + (nb l (a + 5) 5 + 1)) (a + 14 + 3 * (nb l (a + 10) 4 + 4)) [] (.go a' ls))
      (e : Int) (h5 : lq ls 256 = 0 ∧ e = 80 ∨ lq ls 256 ≠ 0 ∧ chk (ls.take (nb l a 5 + 257)) ≠ 0 ∧ e = chk (ls.take (nb l a 5 + 257))
        ∨ lq ls 256 ≠ 0 ∧ chk (ls.take (nb l a 5 + 257)) = 0 ∧ chk (ls.drop (nb l a 5 + 257)) ≠ 0 ∧ e = chk (ls.drop (nb l a 5 + 257))) : InfDy l a 0 (.no e)
  | done (h : a + 14 ≤ 8 * l.length) (h1 : nb l a 5 + 257 ≤ 286 ∧ nb l (a + 5) 5 + 1 ≤ 30) (h2 : a + 14 + 3 * (nb l (a + 10) 4 + 4) ≤ 8 * l.length)
      (h3 : chk (clL l (a + 14) (nb l (a + 10) 4 + 4)) = 0) (a' : Nat) (ls : List Nat) (h4 : InfLs (clL l (a + 14) (nb l (a + 10) 4 + 4)) l (nb l a 5 + 257 + (nb l (a + 5) 5 + 1)) (a + 14 + 3 * (nb l (a + 10) 4 + 4)) [] (.go a' ls))
      (h5 : lq ls 256 ≠ 0 ∧ chk (ls.take (nb l a 5 + 257)) = 0 ∧ chk (ls.drop (nb l a 5 + 257)) = 0) : InfDy l a (nb l a 5 + 257) (.go a' ls)

def fixA : List Nat := List.replicate 144 8 ++ List.replicate 112 9 ++ List.replicate 24 7 ++ List.replicate 8 8
def fixD : List Nat := List.replicate 32 5

/-- One block, behind its first bit. -/
inductive InfBk (l : List Nat) (lim a : Nat) (o : List Nat) : InfSt → Prop where
  | few (h : 8 * l.length < a + 2) : InfBk l lim a o (.no 50)
  | stored (h : a + 2 ≤ 8 * l.length) (h1 : nb l a 2 = 0) (r : InfSt) (h2 : InfSd l lim (a + 2) o r) : InfBk l lim a o r
  | fixed (h : a + 2 ≤ 8 * l.length) (h1 : nb l a 2 = 1) (r : InfSt) (h2 : InfToks fixA fixD l lim (a + 2) o r) : InfBk l lim a o r
  | bad (h : a + 2 ≤ 8 * l.length) (h1 : nb l a 2 = 2) (e : Int) (h2 : InfDy l (a + 2) 0 (.no e)) : InfBk l lim a o (.no e)
  | dyn (h : a + 2 ≤ 8 * l.length) (h1 : nb l a 2 = 2) (n a' : Nat) (ls : List Nat) (h2 : InfDy l (a + 2) n (.go a' ls)) (r : InfSt) (h3 : InfToks (ls.take n) (ls.drop n) l lim a' o r) : InfBk l lim a o r
  | unknown (h : a + 2 ≤ 8 * l.length) (h1 : nb l a 2 = 3) : InfBk l lim a o (.no 80)

/-- All blocks. -/
inductive InfBl (l : List Nat) (lim : Nat) : Nat → List Nat → InfSt → Prop where
  | few (a : Nat) (o : List Nat) (h : 8 * l.length < a + 1) : InfBl l lim a o (.no 50)
  | no (a : Nat) (o : List Nat) (h : a + 1 ≤ 8 * l.length) (e : Int) (h1 : InfBk l lim (a + 1) o (.no e)) : InfBl l lim a o (.no e)
  | last (a : Nat) (o : List Nat) (h : a + 1 ≤ 8 * l.length) (h1 : nb l a 1 = 1) (a' : Nat) (o' : List Nat) (h2 : InfBk l lim (a + 1) o (.go a' o')) : InfBl l lim a o (.go a' o')
  | more (a : Nat) (o : List Nat) (h : a + 1 ≤ 8 * l.length) (h1 : nb l a 1 ≠ 1) (a' : Nat) (o' : List Nat) (h2 : InfBk l lim (a + 1) o (.go a' o')) (r : InfSt) (h3 : InfBl l lim a' o' r) : InfBl l lim a o r

end Go.Proofs.YtebfdoipogjpnaaGreat

/- inflate, the stream's state, and its least methods: check, number, symbol, come. -/
namespace Go.Proofs.YtebfdoipogjpnaaGreat
open Go.RowKit Go.Maps

/-- A thrown error. -/
abbrev thrown (e : Int) : Ending := .panicked [{ v := .iface 23 (.int .i64 e), recovered := false }]

theorem icheck_ok (w : World) : Calls Tryz.prog 72 #[.int .i64 0] w fun e w' => e = .returned (.tuple #[]) ∧ w' = w := by
  go_enter Tryz.func72, Tryz.ntmps72
  go_wp2
  go_end0
  exact ⟨rfl, rfl⟩
theorem icheck_no (x : Int) (h : x ≠ 0) (w : World) : Calls Tryz.prog 72 #[.int .i64 x] w fun e w' => e = thrown x ∧ w' = w := by
  have d : (x != 0) = true := by simpa using h
  go_enter Tryz.func72, Tryz.ntmps72
  go_wp2
  exact ⟨rfl, rfl, rfl⟩

/-- The blocks that a stream writes: itself, its reader, its bytes. -/
def KS (S B : Nat) (ov : Value) (i : Nat) : Prop := i = S ∨ i = B ∨ ov.ownBlock = some i

/-- A table of lengths, whose blocks are none of K's. -/
structure Tbl (w : World) (K : Nat → Prop) (T M n L : Nat) (F : Nat × Nat → Option Nat) (ls : List Nat) : Prop where
  tb : Tb w T M n L F
  tf : ToldF (lq ls) ls.length 15 0 F
  tm : ToldM (lq ls) ls.length 15 0 L
  le : L ≤ 15
  kt : ¬ K T
  km : ¬ K M

def TblV (w : World) (K : Nat → Prop) (tv : Value) (ls : List Nat) : Prop := ∃ T M n L F, tv = .pointer (some ⟨T, 0, none⟩) ∧ Tbl w K T M n L F ls

/-- A block's codes: two tables. -/
def Codn (w : World) (K : Nat → Prop) (cv : Value) (A D : List Nat) : Prop :=
  ∃ (C : Nat) (ta td : Value), cv = .pointer (some ⟨C, 0, none⟩) ∧ w.heap[C]? = some (.cells #[ta, td] 225) ∧ ¬ K C ∧ TblV w K ta A ∧ TblV w K td D

theorem Tbl.go {w w' : World} {K K' : Nat → Prop} {T M n L : Nat} {F : Nat × Nat → Option Nat} {ls : List Nat} (h : Tbl w K T M n L F ls) (ht : Turns K w w') (hk : ∀ i, i < w.heap.size → K' i → K i) : Tbl w' K' T M n L F ls :=
  ⟨h.tb.turns ht h.kt h.km, h.tf, h.tm, h.le, fun e => h.kt (hk _ (lt_heap h.tb.tab) e), fun e => h.km (hk _ h.tb.map.lt e)⟩
theorem TblV.go {w w' : World} {K K' : Nat → Prop} {tv : Value} {ls : List Nat} (h : TblV w K tv ls) (ht : Turns K w w') (hk : ∀ i, i < w.heap.size → K' i → K i) : TblV w' K' tv ls := by
  obtain ⟨T, M, n, L, F, e, h⟩ := h
  exact ⟨T, M, n, L, F, e, h.go ht hk⟩
theorem Codn.go {w w' : World} {K K' : Nat → Prop} {cv : Value} {A D : List Nat} (h : Codn w K cv A D) (ht : Turns K w w') (hk : ∀ i, i < w.heap.size → K' i → K i) : Codn w' K' cv A D := by
  obtain ⟨C, ta, td, e, h1, h2, h3, h4⟩ := h
  exact ⟨C, ta, td, e, (ht.block C (lt_heap h1) h2).trans h1, fun k => h2 (hk _ (lt_heap h1) k), h3.go ht hk, h4.go ht hk⟩

theorem four_set1 {W : World} {B : Nat} {t : TypeId} {a b c d : Value} (x : Value) (h : W.heap[B]? = some (.cells #[a, b, c, d] t)) : (W.setCell ⟨B, 1, none⟩ x).heap[B]? = some (.cells #[a, x, c, d] t) := by
  obtain ⟨hlt, hk⟩ := Array.getElem?_eq_some_iff.1 h
  show (W.heap.modify B _)[B]? = _
  rw [Array.getElem?_eq_getElem (by rw [Array.size_modify]; exact hlt), Array.getElem_modify_self, hk]
  rfl
theorem four_set3 {W : World} {B : Nat} {t : TypeId} {a b c d : Value} (x : Value) (h : W.heap[B]? = some (.cells #[a, b, c, d] t)) : (W.setCell ⟨B, 3, none⟩ x).heap[B]? = some (.cells #[a, b, c, x] t) := by
  obtain ⟨hlt, hk⟩ := Array.getElem?_eq_some_iff.1 h
  show (W.heap.modify B _)[B]? = _
  rw [Array.getElem?_eq_getElem (by rw [Array.size_modify]; exact hlt), Array.getElem_modify_self, hk]
  rfl

/-- What a method leaves: it turns its stream's blocks alone; the bytes lie where they lay, or in a new block. -/
structure Fr (S B : Nat) (ov : Value) (w : World) (ov' : Value) (w' : World) : Prop where
  turns : Turns (KS S B ov) w w'
  own : ∀ k, ov'.ownBlock = some k → ov.ownBlock = some k ∨ w.heap.size ≤ k

theorem Fr.refl (S B : Nat) (ov : Value) (w : World) : Fr S B ov w ov w := ⟨Turns.refl _ _, fun _ h => .inl h⟩
theorem Fr.k {S B : Nat} {ov ov' : Value} {w w' : World} (h : Fr S B ov w ov' w') : ∀ i, i < w.heap.size → KS S B ov' i → KS S B ov i := fun i hi hk => by
  rcases hk with h1 | h1 | h1
  · exact .inl h1
  · exact .inr (.inl h1)
  · rcases h.own i h1 with h2 | h2
    · exact .inr (.inr h2)
    · omega
theorem Fr.trans {S B : Nat} {ov ov' ov'' : Value} {w w' w'' : World} (h : Fr S B ov w ov' w') (h' : Fr S B ov' w' ov'' w'') : Fr S B ov w ov'' w'' :=
  ⟨h.turns.trans' h'.turns h.k, fun k hk => by
    rcases h'.own k hk with h1 | h1
    · exact h.own k h1
    · exact .inr (Nat.le_trans h.turns.size h1)⟩
theorem Fr.throws {S B : Nat} {ov ov' : Value} {w w' w'' : World} (h : Fr S B ov w ov' w') (h' : Turns (KS S B ov') w' w'') : Turns (KS S B ov) w w'' := h.turns.trans' h' h.k
theorem Fr.of_below (S B : Nat) (ov : Value) {w w' : World} (h : Below w.heap.size w w') : Fr S B ov w ov w' := ⟨Turns.of_below' h, fun _ h => .inl h⟩
theorem Fr.codn {S B : Nat} {ov ov' : Value} {w w' : World} {cv : Value} {A D : List Nat} (h : Fr S B ov w ov' w') (hc : Codn w (KS S B ov) cv A D) : Codn w' (KS S B ov') cv A D := hc.go h.turns h.k
theorem Fr.tblv {S B : Nat} {ov ov' : Value} {w w' : World} {tv : Value} {A : List Nat} (h : Fr S B ov w ov' w') (hc : TblV w (KS S B ov) tv A) : TblV w' (KS S B ov') tv A := hc.go h.turns h.k

/-- A stream in memory: its reader at the place a of the bytes l, the bytes o that came. -/
structure Sm (w : World) (base S B : Nat) (sv ov uv : Value) (l : List Nat) (lim a : Nat) (o : List Nat) : Prop where
  box : w.heap[S]? = some (.cells #[.pointer (some ⟨B, 0, none⟩), ov, .int .i64 (lim : Int), uv] 80)
  rd : Rd w B sv l a
  out : w.ownsRow base 5 1 ov o.length (o.map u8v)
  us : uv = .pointer none ∨ Codn w (KS S B ov) uv fixA fixD
  ne : S ≠ B ∧ sv.ownBlock ≠ some S ∧ ov.ownBlock ≠ some S ∧ ov.ownBlock ≠ some B ∧ ∀ k, sv.ownBlock = some k → ov.ownBlock ≠ some k
  lo : base ≤ S ∧ base ≤ B
  le : o.length ≤ lim ∧ lim ≤ 524288
  by' : ∀ b ∈ o, b < 256

section
variable {w : World} {base S B : Nat} {sv ov uv : Value} {l : List Nat} {lim a : Nat} {o : List Nat}
theorem Sm.c0 (h : Sm w base S B sv ov uv l lim a o) : w.cell? ⟨S, 0, none⟩ = some (.pointer (some ⟨B, 0, none⟩)) := by simp [World.cell?, h.box]
theorem Sm.c1 (h : Sm w base S B sv ov uv l lim a o) : w.cell? ⟨S, 1, none⟩ = some ov := by simp [World.cell?, h.box]
theorem Sm.c2 (h : Sm w base S B sv ov uv l lim a o) : w.cell? ⟨S, 2, none⟩ = some (.int .i64 (lim : Int)) := by simp [World.cell?, h.box]
theorem Sm.c3 (h : Sm w base S B sv ov uv l lim a o) : w.cell? ⟨S, 3, none⟩ = some uv := by simp [World.cell?, h.box]
theorem Sm.free (h : Sm w base S B sv ov uv l lim a o) (i : Nat) : w.frozen? ⟨S, i, none⟩ = false := by simp [World.frozen?, h.box]
theorem Sm.size (h : Sm w base S B sv ov uv l lim a o) : S < w.heap.size := lt_heap h.box
theorem Sm.lbase (h : Sm w base S B sv ov uv l lim a o) : base ≤ w.heap.size := by have := h.size; have := h.lo; omega

/-- The reader went on. -/
theorem Sm.reads {w' : World} {a' : Nat} (h : Sm w base S B sv ov uv l lim a o) (hr : Rd w' B sv l a') (ht : Turns (fun i => i = B) w w') : Sm w' base S B sv ov uv l lim a' o ∧ Fr S B ov w ov w' := by
  have hf : Fr S B ov w ov w' := ⟨ht.mono (fun i _ e => .inr (.inl e)), fun _ h => .inl h⟩
  obtain ⟨n1, n2, n3, n4, n5⟩ := h.ne
  refine ⟨⟨(ht.block S h.size n1).trans h.box, hr, ht.owns h.out (fun k hk e => n4 (by rw [hk, e])), h.us.imp id (fun hu => hf.codn hu), h.ne, h.lo, h.le, h.by'⟩, hf⟩
theorem Sm.below {w' : World} (h : Sm w base S B sv ov uv l lim a o) (hb : Below w.heap.size w w') : Sm w' base S B sv ov uv l lim a o ∧ Fr S B ov w ov w' :=
  h.reads (h.rd.below hb) (Turns.of_below' hb)
/-- A byte came. -/
theorem Sm.comes {w1 w' : World} {g cap x : Nat} (h : Sm w base S B sv ov uv l lim a o) (hx : x < 256) (hl : o.length < lim) (ho : w1.ownsRow base 5 1 (.slice (some ⟨g, 0, none⟩) (o.length + 1) cap) (o.length + 1) (o.map u8v ++ [u8v x]))
    (ht : Turns (fun b => ov.ownBlock = some b) w w1) (hg : ov.ownBlock = some g ∨ w.heap.size ≤ g) (hw : w' = w1.setCell ⟨S, 1, none⟩ (.slice (some ⟨g, 0, none⟩) (o.length + 1) cap)) :
    Sm w' base S B sv (.slice (some ⟨g, 0, none⟩) (o.length + 1) cap) uv l lim a (o ++ [x]) ∧ Fr S B ov w (.slice (some ⟨g, 0, none⟩) (o.length + 1) cap) w' := by
  subst hw
  obtain ⟨n1, n2, n3, n4, n5⟩ := h.ne
  have hgS : g ≠ S := fun e => by
    rcases hg with h1 | h1
    · exact n3 (e ▸ h1)
    · have := h.size; omega
  have hgB : g ≠ B := fun e => by
    rcases hg with h1 | h1
    · exact n4 (e ▸ h1)
    · have := h.rd.size; omega
  have hgs : ∀ k, sv.ownBlock = some k → (Value.slice (some ⟨g, 0, none⟩) (o.length + 1) cap).ownBlock ≠ some k := fun k hk e => by
    cases e
    rcases hg with h1 | h1
    · exact n5 _ hk h1
    · have := h.rd.row.lt _ hk; have h2 : w.heap.size ≤ g := h1; simp only at this; omega
  have hbx : w1.heap[S]? = some (.cells #[.pointer (some ⟨B, 0, none⟩), ov, .int .i64 (lim : Int), uv] 80) := (ht.block S h.size n3).trans h.box
  have ht2 : Turns (KS S B ov) w (w1.setCell ⟨S, 1, none⟩ (.slice (some ⟨g, 0, none⟩) (o.length + 1) cap)) := (ht.mono (T' := KS S B ov) (fun i _ e => .inr (.inr e))).set (p := ⟨S, 1, none⟩) (.inl rfl) _
  have hf : Fr S B ov w (.slice (some ⟨g, 0, none⟩) (o.length + 1) cap) (w1.setCell ⟨S, 1, none⟩ (.slice (some ⟨g, 0, none⟩) (o.length + 1) cap)) := ⟨ht2, fun k hk => by cases hk; exact hg⟩
  have ht3 : Turns (fun i => i = S ∨ ov.ownBlock = some i) w (w1.setCell ⟨S, 1, none⟩ (.slice (some ⟨g, 0, none⟩) (o.length + 1) cap)) := (ht.mono (T' := fun i => i = S ∨ ov.ownBlock = some i) (fun i _ e => .inr e)).set (p := ⟨S, 1, none⟩) (.inl rfl) _
  refine ⟨⟨?_, ?_, ?_, h.us.imp id (fun hu => hf.codn hu), ⟨n1, n2, fun e => hgS (by cases e; rfl), fun e => hgB (by cases e; rfl), hgs⟩, h.lo, ⟨by simp; omega, h.le.2⟩, ?_⟩, hf⟩
  · exact four_set1 _ hbx
  · exact h.rd.turns ht3 (fun e => e.elim (fun e => n1 e.symm) (fun e => n4 e)) (fun k hk e => e.elim (fun e => n2 (by rw [hk, e])) (fun e => n5 k hk e))
  · rw [List.length_append, List.map_append]
    refine (Turns.set (T := fun i => i = S) (p := ⟨S, 1, none⟩) (Turns.refl _ w1) rfl _).owns ho (fun i hi e => hgS (by cases hi; exact e))
  · intro b hb
    rcases List.mem_append.1 hb with hb | hb
    · exact h.by' b hb
    · obtain rfl : b = x := by simpa using hb
      exact hx
end

end Go.Proofs.YtebfdoipogjpnaaGreat
