/- huff's turned. -/
import Derived.Test.YtlbhgackpjfhaaaHufO
namespace Go.Proofs.Ytlbhgackpjfhaaa
open Go.RowKit

/-- So many bits of a number, the first one becomes the highest. -/
def trn : Nat → Nat → Nat → Nat
  | 0, acc, _ => acc
  | s + 1, acc, x => trn s (acc * 2 + x % 2) (x / 2)

theorem and_one_u32 (x : Nat) (h : x < 4294967296) : bits .and .u32 (x : Int) 1 = ((x % 2 : Nat) : Int) := by
  have := bits_mask .u32 32 (by decide) (fun m h0 h1 => by rw [IntKind.wrap_u32]; omega) 1 (by omega) x (by omega) (by omega)
  simpa using this

theorem or_low_u16 (a b : Nat) (ha : a < 32768) (hb : b < 2) : bits .or .u16 ((a : Int) * 2) (b : Int) = ((a * 2 + b : Nat) : Int) := by
  have e : ((a : Int) * 2) = ((a * 2 : Nat) : Int) := by simp
  rw [e, (bits_nat .u16 16 (by decide) (fun m h0 h1 => by rw [IntKind.wrap_u16]; omega) (a * 2) b (by omega) (by omega)).2]
  have h := Nat.two_pow_add_eq_or_of_lt (i := 1) (b := b) (by omega) a
  rw [Nat.mul_comm a 2]
  simp only [Nat.pow_one] at h
  rw [h]

set_option maxHeartbeats 1000000 in
theorem turned_any (x s : Nat) (w : World) (hx : x < 4294967296) (hs : s ≤ 15) :
    Calls Try.prog 41 #[.int .u32 (x : Int), .int .u8 (s : Int)] w fun e w' => e = .returned (.int .u16 ((trn s 0 x : Nat) : Int)) ∧ w' = w := by
  obtain ⟨r, hr⟩ : ∃ r, trn s 0 x = r := ⟨_, rfl⟩
  rw [hr]
  have Hr := Lib.hid hr
  clear hr
  go_enter Try.func41, Try.ntmps41
  go_wp2
  go_loop [0, 5, 7] (fun xv av kv => ∃ (k y a : Nat), xv = .int .u32 (y : Int) ∧ av = .int .u16 (a : Int) ∧ kv = .int .u8 (k : Int) ∧ k ≤ s ∧ y < 4294967296 ∧ Hid (a < 2 ^ k ∧ trn (s - k) a y = r)) (fun _ _ kv => s - (intOf kv).toNat)
  case atStart => exact ⟨0, x, 0, rfl, rfl, rfl, Nat.zero_le _, hx, Lib.hid ⟨by simp, Hr.out⟩⟩
  case round =>
    obtain ⟨k, y, a, rfl, rfl, rfl, hk, hy, HI⟩ := hrel
    by_cases hlt : k < s
    · have d0 : decide (k < s) = true := by simpa using hlt
      have ha : a < 32768 := by
        have h1 := HI.out.1
        have h2 : 2 ^ k ≤ 2 ^ 14 := Nat.pow_le_pow_right (by decide) (by omega)
        have h3 : (2 : Nat) ^ 14 = 16384 := rfl
        omega
      have hand := and_one_u32 y hy
      obtain ⟨b, hb⟩ : ∃ b, y % 2 = b := ⟨_, rfl⟩
      rw [hb] at hand
      have hb2 : b < 2 := by omega
      have hor := or_low_u16 a b ha hb2
      obtain ⟨c, hc⟩ : ∃ c, a * 2 + b = c := ⟨_, rfl⟩
      rw [hc] at hor
      have HI1 : Hid (c < 2 ^ (k + 1) ∧ trn (s - (k + 1)) c (y / 2) = r) := Lib.hid (by
        obtain ⟨h1, h2⟩ := HI.out
        rw [show s - k = (s - (k + 1)) + 1 by omega, trn, hb, hc] at h2
        refine ⟨?_, h2⟩
        rw [Nat.pow_succ]; omega)
      have hc16 : c < 65536 := by omega
      clear hb hc
      go_wp2
      go_round
      case rel => exact ⟨k + 1, y / 2, c, by go_num, by go_num, by go_num, by omega, by omega, HI1⟩
      case measure => simp [intOf]; omega
    · obtain rfl : k = s := by omega
      have d0 : decide (k < k) = false := by simp
      have h2 := HI.out.2
      rw [Nat.sub_self, trn] at h2
      subst h2
      go_wp2
      go_ret
      exact ⟨rfl, rfl⟩

end Go.Proofs.Ytlbhgackpjfhaaa
