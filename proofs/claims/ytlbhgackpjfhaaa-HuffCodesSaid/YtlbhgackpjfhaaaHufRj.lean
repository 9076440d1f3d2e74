/- A code's row of bits is its number (plain). -/
import Derived.Test.YtlbhgackpjfhaaaHufRh
namespace Go.Proofs.Ytlbhgackpjfhaaa

theorem trn_acc : ∀ n r x, trn n r x = r * 2 ^ n + trn n 0 x
  | 0, r, x => by simp [trn]
  | n + 1, r, x => by
    rw [trn, trn, trn_acc n (r * 2 + x % 2), trn_acc n (0 * 2 + x % 2), Nat.pow_succ, Nat.add_mul, Nat.zero_mul, Nat.zero_add, Nat.mul_assoc r, Nat.mul_comm 2, Nat.add_assoc]

theorem brow_step (n x : Nat) : brow (n + 1) x (n + 1) = brow n (x / 2) n ++ [decide (x % 2 = 1)] := by
  rw [brow_snoc]
  congr 1
  · unfold brow
    refine List.map_congr_left fun i hi => ?_
    have hi := List.mem_range.1 hi
    rw [Nat.div_div_eq_div_mul, ← Nat.pow_succ', show n + 1 - 1 - i = (n - 1 - i) + 1 by omega]
  · simp

theorem numL_snoc' (l : List Bool) (b : Bool) : numL (l ++ [b]) = numL l + b.toNat * 2 ^ l.length := by
  induction l with
  | nil => cases b <;> simp [numL]
  | cons a r ih =>
    rw [List.cons_append, numL, ih, numL, List.length_cons, Nat.pow_succ, Nat.mul_add, Nat.mul_comm 2 (_ * _), Nat.mul_assoc, Nat.add_assoc]

theorem numL_brow : ∀ n x, numL (brow n x n) = trn n 0 x
  | 0, x => rfl
  | n + 1, x => by
    rw [brow_step, numL_snoc', numL_brow n, brow_len, trn, trn_acc n (0 * 2 + x % 2), Nat.zero_mul, Nat.zero_add, Nat.add_comm]
    congr 1
    have : (decide (x % 2 = 1)).toNat = x % 2 := by
      rcases Nat.mod_two_eq_zero_or_one x with h | h <;> simp [h]
    rw [this]

theorem numL_rowOf (f : Nat → Nat) (N s : Nat) : numL (rowOf f N s) = cd f N s := numL_brow _ _

end Go.Proofs.Ytlbhgackpjfhaaa
