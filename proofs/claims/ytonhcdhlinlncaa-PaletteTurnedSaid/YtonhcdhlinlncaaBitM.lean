/- Numbers, bytes and bits: plain facts. Nothing here speaks of one program. -/
import Derived.Test.YtonhcdhlinlncaaBase
namespace Go.Proofs.Ytonhcdhlinlncaa

/-- m bytes of a number, the low one first. -/
def byts : Nat → Nat → List Nat
  | _, 0 => []
  | N, m + 1 => N % 256 :: byts (N / 256) m

/-- The number that bytes are. -/
def numB : List Nat → Nat
  | [] => 0
  | b :: r => b + 256 * numB r

/-- n bits of a number, the low one first. -/
def bitsL : Nat → Nat → List Bool
  | _, 0 => []
  | v, n + 1 => decide (v % 2 = 1) :: bitsL (v / 2) n

/-- The number that bits are. -/
def numL : List Bool → Nat
  | [] => 0
  | b :: r => b.toNat + 2 * numL r

theorem pow256 (q : Nat) : 256 ^ q = 2 ^ (8 * q) := by rw [Nat.pow_mul]
theorem pow_pos' (n : Nat) : 0 < 2 ^ n := Nat.pow_pos (by decide)

theorem byts_len : ∀ (N m : Nat), (byts N m).length = m
  | _, 0 => rfl
  | N, m + 1 => by simp [byts, byts_len]

theorem byts_snoc : ∀ (N m : Nat), byts N (m + 1) = byts N m ++ [N / 256 ^ m % 256]
  | N, 0 => by simp [byts]
  | N, m + 1 => by
    rw [byts, byts_snoc (N / 256) m, byts, List.cons_append, Nat.div_div_eq_div_mul, Nat.pow_succ, Nat.mul_comm 256]

theorem byts_add : ∀ (N m M : Nat), byts (N + 256 ^ m * M) m = byts N m
  | _, 0, _ => rfl
  | N, m + 1, M => by
    have e : 256 ^ (m + 1) * M = 256 * (256 ^ m * M) := by rw [Nat.pow_succ, Nat.mul_comm (256 ^ m), Nat.mul_assoc]
    rw [byts, byts, e, Nat.add_mul_mod_self_left, Nat.add_mul_div_left _ _ (by decide), byts_add]

theorem byts_lt : ∀ (N m : Nat), ∀ b ∈ byts N m, b < 256
  | _, 0, b, h => by cases h
  | N, m + 1, b, h => by
    rcases List.mem_cons.1 h with rfl | h
    · omega
    · exact byts_lt _ m b h

theorem numB_byts : ∀ (N m : Nat), N < 256 ^ m → numB (byts N m) = N
  | N, 0, h => by simp at h; subst h; rfl
  | N, m + 1, h => by
    rw [byts, numB, numB_byts (N / 256) m (by rw [Nat.pow_succ] at h; exact Nat.div_lt_of_lt_mul (by rwa [Nat.mul_comm]))]
    omega

theorem numB_lt : ∀ (l : List Nat), (∀ b ∈ l, b < 256) → numB l < 256 ^ l.length
  | [], _ => by simp [numB]
  | b :: r, h => by
    have h1 := numB_lt r (fun x hx => h x (by simp [hx]))
    have h2 := h b (by simp)
    rw [numB, List.length_cons, Nat.pow_succ]
    omega

theorem byts_numB : ∀ (l : List Nat), (∀ b ∈ l, b < 256) → byts (numB l) l.length = l
  | [], _ => rfl
  | b :: r, h => by
    have h1 := byts_numB r (fun x hx => h x (by simp [hx]))
    have h2 := h b (by simp)
    rw [List.length_cons, byts, numB, Nat.add_mul_mod_self_left, Nat.add_mul_div_left _ _ (by decide), Nat.mod_eq_of_lt h2, Nat.div_eq_of_lt h2, Nat.zero_add, h1]

theorem byts_get (N m i : Nat) (h : i < m) : (byts N m)[i]'(by rw [byts_len]; exact h) = N / 256 ^ i % 256 := by
  induction m generalizing N i with
  | zero => omega
  | succ m ih =>
    cases i with
    | zero => simp [byts]
    | succ i =>
      simp only [byts, List.getElem_cons_succ]
      rw [ih (N / 256) i (by omega), Nat.div_div_eq_div_mul, Nat.pow_succ, Nat.mul_comm 256]

theorem numB_get (l : List Nat) (h : ∀ b ∈ l, b < 256) (i : Nat) (hi : i < l.length) : numB l / 256 ^ i % 256 = l[i] := by
  have e := byts_get (numB l) l.length i hi
  rw [← e]
  congr 1
  exact byts_numB l h

/-- The bytes behind a piece more: the last byte alone has turned. -/
theorem byts_lay (N n p s : Nat) (hN : N < 2 ^ n) (hp : p < 2 ^ s) (hs : 0 < s) (hfit : n % 8 + s ≤ 8) :
    (n + s + 7) / 8 = n / 8 + 1 ∧ byts (N + p * 2 ^ n) (n / 8 + 1) = byts N (n / 8) ++ [N / 256 ^ (n / 8) + p * 2 ^ (n % 8)] ∧ N / 256 ^ (n / 8) < 2 ^ (n % 8) ∧ N + p * 2 ^ n < 2 ^ (n + s) ∧ N / 256 ^ (n / 8) + p * 2 ^ (n % 8) < 256 := by
  have hn : 2 ^ n = 256 ^ (n / 8) * 2 ^ (n % 8) := by rw [pow256, ← Nat.pow_add]; congr 1; omega
  have h3 : N / 256 ^ (n / 8) < 2 ^ (n % 8) := Nat.div_lt_of_lt_mul (by rw [← hn]; exact hN)
  have h5 : N / 256 ^ (n / 8) + p * 2 ^ (n % 8) < 256 := by
    have h6 : 2 ^ (n % 8) * 2 ^ s ≤ 2 ^ 8 := by rw [← Nat.pow_add]; exact Nat.pow_le_pow_right (by decide) hfit
    have h7 : p * 2 ^ (n % 8) + 2 ^ (n % 8) ≤ 2 ^ (n % 8) * 2 ^ s := by
      have : (p + 1) * 2 ^ (n % 8) ≤ 2 ^ s * 2 ^ (n % 8) := Nat.mul_le_mul_right _ hp
      rw [Nat.mul_comm (2 ^ (n % 8)) (2 ^ s)]
      rw [Nat.add_mul] at this
      omega
    have : (2 : Nat) ^ 8 = 256 := rfl
    omega
  refine ⟨by omega, ?_, h3, ?_, h5⟩
  · have e : N + p * 2 ^ n = N + 256 ^ (n / 8) * (p * 2 ^ (n % 8)) := by rw [hn, Nat.mul_left_comm]
    rw [byts_snoc, e, byts_add, Nat.add_mul_div_left _ _ (Nat.pow_pos (by decide)), Nat.mod_eq_of_lt h5]
  · have : (p + 1) * 2 ^ n ≤ 2 ^ s * 2 ^ n := Nat.mul_le_mul_right _ hp
    rw [Nat.pow_add, Nat.mul_comm (2 ^ n)]
    rw [Nat.add_mul] at this
    omega

theorem byts_zero (N n : Nat) (h : n % 8 ≠ 0) : byts N ((n + 7) / 8) = byts N (n / 8) ++ [N / 256 ^ (n / 8) % 256] := by
  rw [show (n + 7) / 8 = n / 8 + 1 by omega, byts_snoc]
theorem byts_full (N n : Nat) (h : n % 8 = 0) : byts N ((n + 7) / 8) = byts N (n / 8) := by
  rw [show (n + 7) / 8 = n / 8 by omega]

/-- What a piece of bits is, in the row's number. -/
theorem piece_num (l : List Nat) (h : ∀ b ∈ l, b < 256) (at_ s : Nat) (hfit : at_ % 8 + s ≤ 8) (hi : at_ / 8 < l.length) :
    l[at_ / 8] / 2 ^ (at_ % 8) % 2 ^ s = numB l / 2 ^ at_ % 2 ^ s := by
  have e := numB_get l h (at_ / 8) hi
  rw [← e, pow256]
  generalize numB l = X
  have h1 : X / 2 ^ at_ = X / 2 ^ (8 * (at_ / 8)) / 2 ^ (at_ % 8) := by
    rw [Nat.div_div_eq_div_mul, ← Nat.pow_add]; congr 2; omega
  rw [h1]
  generalize X / 2 ^ (8 * (at_ / 8)) = Y
  have h2 : (256 : Nat) = 2 ^ (at_ % 8) * 2 ^ (8 - at_ % 8) := by rw [← Nat.pow_add, show at_ % 8 + (8 - at_ % 8) = 8 by omega]
  rw [h2, Nat.mod_mul_right_div_self]
  have h3 : 2 ^ s ∣ 2 ^ (8 - at_ % 8) := Nat.pow_dvd_pow 2 (by omega)
  exact Nat.mod_mod_of_dvd _ h3

theorem mod_pow_add (x a b : Nat) : x % 2 ^ (a + b) = x % 2 ^ a + x / 2 ^ a % 2 ^ b * 2 ^ a := by
  rw [Nat.pow_add, Nat.mod_mul, Nat.mul_comm (2 ^ a) (x / 2 ^ a % 2 ^ b)]

theorem bitsL_len : ∀ (v n : Nat), (bitsL v n).length = n
  | _, 0 => rfl
  | v, n + 1 => by simp [bitsL, bitsL_len]

theorem bitsL_snoc : ∀ (v n : Nat), bitsL v (n + 1) = bitsL v n ++ [decide (v / 2 ^ n % 2 = 1)]
  | v, 0 => by simp [bitsL]
  | v, n + 1 => by
    rw [bitsL, bitsL_snoc (v / 2) n, bitsL, List.cons_append, Nat.div_div_eq_div_mul, Nat.pow_succ, Nat.mul_comm 2]

theorem numL_lt : ∀ (l : List Bool), numL l < 2 ^ l.length
  | [] => by simp [numL]
  | b :: r => by
    have h1 := numL_lt r
    have h2 : b.toNat ≤ 1 := Bool.toNat_le b
    rw [numL, List.length_cons, Nat.pow_succ]
    omega

theorem numL_append : ∀ (a b : List Bool), numL (a ++ b) = numL a + 2 ^ a.length * numL b
  | [], b => by simp [numL]
  | x :: r, b => by
    rw [List.cons_append, numL, numL, numL_append r b, List.length_cons, Nat.pow_succ, Nat.mul_add, Nat.mul_comm (2 ^ r.length) 2, Nat.mul_assoc, Nat.add_assoc]

theorem numL_bitsL : ∀ (v n : Nat), v < 2 ^ n → numL (bitsL v n) = v
  | v, 0, h => by simp at h; subst h; rfl
  | v, n + 1, h => by
    rw [bitsL, numL, numL_bitsL (v / 2) n (by rw [Nat.pow_succ] at h; omega)]
    by_cases e : v % 2 = 1 <;> simp [e] <;> omega

theorem bitsL_numL : ∀ (l : List Bool), bitsL (numL l) l.length = l
  | [] => rfl
  | b :: r => by
    have h2 : b.toNat ≤ 1 := Bool.toNat_le b
    rw [List.length_cons, bitsL, numL, show (b.toNat + 2 * numL r) / 2 = numL r by omega, bitsL_numL r]
    have : (b.toNat + 2 * numL r) % 2 = b.toNat := by omega
    rw [this]
    cases b <;> rfl

theorem numL_drop (l : List Bool) (k : Nat) (h : k ≤ l.length) : numL (l.drop k) = numL l / 2 ^ k := by
  have e := numL_append (l.take k) (l.drop k)
  rw [List.take_append_drop, List.length_take, Nat.min_eq_left h] at e
  have hl := numL_lt (l.take k)
  rw [List.length_take, Nat.min_eq_left h] at hl
  rw [e, Nat.add_mul_div_left _ _ (pow_pos' k), Nat.div_eq_of_lt hl, Nat.zero_add]

theorem numL_take (l : List Bool) (k : Nat) (h : k ≤ l.length) : numL (l.take k) = numL l % 2 ^ k := by
  have e := numL_append (l.take k) (l.drop k)
  rw [List.take_append_drop, List.length_take, Nat.min_eq_left h] at e
  have hl := numL_lt (l.take k)
  rw [List.length_take, Nat.min_eq_left h] at hl
  rw [e, Nat.add_mul_mod_self_left, Nat.mod_eq_of_lt hl]

theorem numL_take' (l : List Bool) (k : Nat) : numL (l.take k) = numL l % 2 ^ k := by
  by_cases h : k ≤ l.length
  · exact numL_take l k h
  · have h1 := numL_lt l
    have h2 : 2 ^ l.length ≤ 2 ^ k := Nat.pow_le_pow_right (by decide) (by omega)
    rw [List.take_of_length_le (by omega), Nat.mod_eq_of_lt (by omega)]
theorem numL_byte (l : List Bool) (q : Nat) (h : 8 * q ≤ l.length) : numL ((l.drop (8 * q)).take 8) = numL l / 256 ^ q % 256 := by
  rw [numL_take', numL_drop _ _ h, pow256]

theorem numL_seg (l : List Bool) (at_ n : Nat) (h : at_ + n ≤ l.length) : numL ((l.drop at_).take n) = numL l / 2 ^ at_ % 2 ^ n := by
  rw [numL_take _ _ (by rw [List.length_drop]; omega), numL_drop _ _ (by omega)]

theorem numL_zeros : ∀ n, numL (List.replicate n false) = 0
  | 0 => rfl
  | n + 1 => by rw [List.replicate_succ, numL, numL_zeros n]; rfl

/-- The bits of bytes. -/
def ofB (l : List Nat) : List Bool := l.flatMap fun b => bitsL b 8
theorem ofB_snoc (l : List Nat) (b : Nat) : ofB (l ++ [b]) = ofB l ++ bitsL b 8 := by simp [ofB]
theorem ofB_len : ∀ l : List Nat, (ofB l).length = 8 * l.length
  | [] => rfl
  | b :: r => by
    have := ofB_len r
    unfold ofB at this ⊢
    rw [List.flatMap_cons, List.length_append, this, bitsL_len, List.length_cons]
    omega
theorem numL_ofB : ∀ l : List Nat, (∀ b ∈ l, b < 256) → numL (ofB l) = numB l
  | [], _ => rfl
  | b :: r, h => by
    have h1 := numL_ofB r (fun x hx => h x (by simp [hx]))
    unfold ofB at h1 ⊢
    rw [List.flatMap_cons, numL_append, h1, numL_bitsL b 8 (h b (by simp)), bitsL_len, numB]

/-- What zeros behind do to a row's bytes: there are none to see. -/
theorem byts_align (N n k : Nat) (hk : n + k = (n + 7) / 8 * 8) : byts N ((n + k + 7) / 8) = byts N ((n + 7) / 8) := by
  congr 1; omega

theorem div_pow_zero {v n : Nat} : v / 2 ^ n = 0 ↔ v < 2 ^ n := by
  rw [Nat.div_eq_zero_iff]
  have := pow_pos' n
  omega

end Go.Proofs.Ytonhcdhlinlncaa
