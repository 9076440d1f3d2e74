/- bits' small functions: counts, low, missing, fitting. -/
import Derived.Test.YtonhcdhlinlncaaBitM
import Derived.Test.YtonhcdhlinlncaaHead
import Derived.Test.YtonhcdhlinlncaaAppends
import Derived.Test.YtonhcdhlinlncaaRowG
import Derived.Laws.BitsLemmas
import Derived.IntWalk
import Derived.Handy
namespace Go.Proofs.Ytonhcdhlinlncaa
open Go.RowKit

theorem counts_yes (n : Int) (w : World) (h0 : 0 ≤ n) (h1 : n ≤ 24) : Calls Try.prog 37 #[.int .i64 n] w fun e w' => e = .returned (.bool true) ∧ w' = w := by
  go_enter Try.func37, Try.ntmps37
  go_wp2
  go_ret
  exact ⟨rfl, rfl⟩

theorem counts_no (n : Int) (w : World) (h : n < 0 ∨ 24 < n) : Calls Try.prog 37 #[.int .i64 n] w fun e w' => e = .returned (.bool false) ∧ w' = w := by
  rcases h with h | h
  · have d1 : decide (0 ≤ n) = false := by simp; omega
    go_enter Try.func37, Try.ntmps37
    go_wp2
    go_ret
    exact ⟨rfl, rfl⟩
  · by_cases h0 : 0 ≤ n
    · have d1 : decide (n ≤ 24) = false := by simp; omega
      go_enter Try.func37, Try.ntmps37
      go_wp2
      go_ret
      exact ⟨rfl, rfl⟩
    · omega

theorem pow_le24 {n : Nat} (hn : n ≤ 24) : 2 ^ n ≤ 16777216 := Nat.pow_le_pow_right (by decide) hn

theorem cast_pow (n : Nat) : ((2 : Int) ^ n) = ((2 ^ n : Nat) : Int) := by simp

theorem low_num (v n : Nat) (hv : v < 4294967296) (hn : n ≤ 24) : bits .and .u32 (v : Int) ((2 ^ n - 1) % 4294967296) = ((v % 2 ^ n : Nat) : Int) := by
  have h2 := pow_le24 hn
  have h3 := pow_pos' n
  have e : ((2 : Int) ^ n - 1) % 4294967296 = 2 ^ n - 1 := by rw [cast_pow]; omega
  rw [e, bits_mask .u32 32 (by decide) (fun m h0 h1 => by rw [IntKind.wrap_u32]; omega) n (by omega) v (by omega) (by omega)]
  simp

theorem low_any (v n : Nat) (w : World) (hv : v < 4294967296) (hn : n ≤ 24) : Calls Try.prog 38 #[.int .u32 (v : Int), .int .i64 (n : Int)] w fun e w' => e = .returned (.int .u32 ((v % 2 ^ n : Nat) : Int)) ∧ w' = w := by
  have HL := Lib.hid (low_num v n hv hn)
  go_enter Try.func38, Try.ntmps38
  go_wp2
  go_ret
  exact ⟨ret_int HL.out, rfl⟩

theorem neg_mask7 (n : Nat) : bits .and .i64 (-(n : Int)) 7 = (((8 - n % 8) % 8 : Nat) : Int) := by
  unfold bits
  simp only [BitVec.toNat_and]
  have e7 : (BitVec.ofInt IntKind.i64.bits 7).toNat = 2 ^ 3 - 1 := by decide
  rw [e7, Nat.and_two_pow_sub_one_eq_mod]
  have e8 : (BitVec.ofInt IntKind.i64.bits (-(n : Int))).toNat = ((-(n : Int)) % 18446744073709551616).toNat := by
    rw [BitVec.toNat_ofInt]; rfl
  rw [e8]
  have e9 : ((-(n : Int)) % 18446744073709551616).toNat % 2 ^ 3 = (8 - n % 8) % 8 := by
    have : (2 : Nat) ^ 3 = 8 := rfl
    rw [this]
    omega
  rw [e9]
  exact IntWalk.i64_in _ (by omega)

theorem fitting_any (n a : Nat) (w : World) (ha : a ≤ 9223372036854775807) : Calls Try.prog 45 #[.int .i64 (n : Int), .int .i64 (a : Int)] w fun e w' => e = .returned (.int .i64 ((min n (8 - a % 8) : Nat) : Int)) ∧ w' = w := by
  go_enter Try.func45, Try.ntmps45
  go_wp2
  all_goals
    go_ret
    exact ⟨ret_int (by omega), rfl⟩

end Go.Proofs.Ytonhcdhlinlncaa
