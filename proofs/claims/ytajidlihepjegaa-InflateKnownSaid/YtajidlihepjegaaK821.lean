/- huff's tell: the codes of lengths, handed on one by one. -/
import Derived.Test.YtajidlihepjegaaK820
namespace Go.Proofs.Ytajidlihepjegaa
open Go.RowKit

/-- How many of the first k symbols have this length. -/
def cn (f : Nat → Nat) (n k : Nat) : Nat := sm k fun i => if f i = n then 1 else 0
theorem cn_succ (f : Nat → Nat) (n k : Nat) : cn f n (k + 1) = cn f n k + (if f k = n then 1 else 0) := rfl
theorem cn_le (f : Nat → Nat) (n : Nat) : ∀ k, cn f n k ≤ k
  | 0 => Nat.le_refl _
  | k + 1 => by
    have := cn_le f n k
    rw [cn_succ]; split <;> omega

/-- The number behind the last code of this length. -/
def en (f : Nat → Nat) (N : Nat) : Nat → Nat
  | 0 => 0
  | n + 1 => en f N n * 2 + cn f (n + 1) N
theorem en_le (f : Nat → Nat) (N : Nat) : ∀ n, en f N n + N ≤ N * 2 ^ n
  | 0 => by simp [en]
  | n + 1 => by
    have h1 := en_le f N n
    have h2 := cn_le f (n + 1) N
    rw [en, Nat.pow_succ, ← Nat.mul_assoc]
    omega
theorem en_small (f : Nat → Nat) {N n : Nat} (hN : N ≤ 320) (hn : n ≤ 15) : en f N n ≤ 10485760 := by
  have h1 := en_le f N n
  have h2 : 2 ^ n ≤ 2 ^ 15 := Nat.pow_le_pow_right (by decide) hn
  have h3 : (2 : Nat) ^ 15 = 32768 := rfl
  rw [h3] at h2
  have h4 : N * 2 ^ n ≤ 320 * 32768 := Nat.mul_le_mul hN h2
  omega

/-- The code of the symbol k, if it has n + 1 bits, as a number. -/
def nx (f : Nat → Nat) (N n k : Nat) : Nat := en f N n * 2 + cn f (n + 1) k

set_option maxRecDepth 20000 in
set_option maxHeartbeats 2000000 in
theorem tellC_any (ls : List Nat) (v : Value) (B : Nat) (J : Nat → Nat → World → Prop) (w : World) (hN : ls.length ≤ 320) (hv : ∀ n k w, J n k w → Row enc8 1 w v ls)
    (hh : ∀ n k w, n < 15 → k < ls.length → lq ls k = n + 1 → J n k w → Calls Try.prog 37 #[.int .i64 (k : Int), .agg #[.int .u16 ((trn (n + 1) 0 (nx (lq ls) ls.length n k) : Nat) : Int), .int .u16 ((n + 1 : Nat) : Int)], .pointer (some ⟨B, 0, none⟩)] w fun e w' => e = .returned (.tuple #[]) ∧ J n (k + 1) w')
    (hs : ∀ n k w, k < ls.length → lq ls k ≠ n + 1 → J n k w → J n (k + 1) w) (hn : ∀ n w, J n ls.length w → J (n + 1) 0 w) (h0 : J 0 0 w) :
    Calls Try.prog 36 #[v, .func (.func 37) #[] #[.pointer (some ⟨B, 0, none⟩)]] w fun e w' => e = .returned (.tuple #[]) ∧ J 15 0 w' := by
  obtain ⟨p, c, rfl, -, -, -⟩ := hv 0 0 w h0
  have Hv := Lib.hid hv
  have Hh := Lib.hid hh
  have Hs := Lib.hid hs
  have Hnx := Lib.hid hn
  have H0 := Lib.hid h0
  clear hv hh hs hn h0
  go_enter Try.func36, Try.ntmps36
  go_wp2
  go_loopw [4, 5] (fun xv nv wr => ∃ (n x : Nat), xv = .int .u32 (x : Int) ∧ nv = .int .u8 ((n : Int) + 1) ∧ n ≤ 15 ∧ x ≤ 10485760 ∧ Hid (x = en (lq ls) ls.length n) ∧ Hid (J n 0 wr)) (fun _ nv _ => 16 - (intOf nv).toNat)
  case atStart => exact ⟨0, 0, rfl, rfl, by omega, by omega, Lib.hid rfl, H0⟩
  case round =>
    obtain ⟨n, x, rfl, rfl, hn, hx, Hx, HJ⟩ := hrel
    by_cases hlt : n < 15
    · have d0 : (n : Int) + 1 ≤ 15 := by omega
      go_wp2
      go_loopw [4, 16] (fun yv kv ws => ∃ (k y : Nat), yv = .int .u32 (y : Int) ∧ kv = .int .i64 (k : Int) ∧ k ≤ ls.length ∧ y ≤ 2 * x + k ∧ Hid (y = nx (lq ls) ls.length n k) ∧ Hid (J n k ws)) (fun _ kv _ => ls.length - (intOf kv).toNat)
      case atStart => exact ⟨0, x * 2, by go_num, rfl, Nat.zero_le _, by omega, Lib.hid (by rw [Hx.out]; unfold nx; simp [cn, sm]), HJ⟩
      case round =>
        obtain ⟨k, y, rfl, rfl, hk, hy, Hy, HK⟩ := hrel
        by_cases hkl : k < ls.length
        · obtain ⟨p', c', e', _, _, hrow⟩ := Hv.out n k wr HK.out
          cases e'
          obtain ⟨g, off, rfl, hcell⟩ := hrow.byte hkl
          obtain ⟨z, hz⟩ : ∃ z, lq ls k = z := ⟨_, rfl⟩
          rw [hz] at hcell
          unfold u8v at hcell
          have Hz := Lib.hid hz
          have k0 : (0 : Int) ≤ (k : Int) := by omega
          have k1 : (k : Int) < (ls.length : Int) := by omega
          clear hrow hz
          by_cases hzn : z = n + 1
          · subst hzn
            rw [show ((n + 1 : Nat) : Int) = (n : Int) + 1 by omega] at hcell
            have ht := turned_any y (n + 1) wr (by omega) (by omega)
            rw [show ((n + 1 : Nat) : Int) = (n : Int) + 1 by omega] at ht
            have hhand := Hh.out n k wr hlt hkl Hz.out HK.out
            rw [← Hy.out, show ((n + 1 : Nat) : Int) = (n : Int) + 1 by omega] at hhand
            have Ht := Lib.hid ht
            have Hhand := Lib.hid hhand
            have Hy1 : Hid (y + 1 = nx (lq ls) ls.length n (k + 1)) := Lib.hid (by
              unfold nx
              rw [cn_succ, if_pos Hz.out, Hy.out]
              unfold nx; omega)
            clear ht hhand
            go_wp2_with fail
            refine Calls.mono Ht.out ?_
            rintro e w1 ⟨rfl, rfl⟩
            go_wp2_with fail
            refine Calls.mono Hhand.out ?_
            rintro e w2 ⟨rfl, hj⟩
            have HJ2 := Lib.hid hj
            clear hj
            go_wp2
            go_roundw
            case rel => exact ⟨k + 1, y + 1, by go_num, by go_num, by omega, by omega, Hy1, HJ2⟩
            case measure => simp [intOf]; omega
          · have ez : ((z : Int) == (n : Int) + 1) = false := by simp; omega
            have Hy1 : Hid (y = nx (lq ls) ls.length n (k + 1)) := Lib.hid (by
              unfold nx
              rw [cn_succ, if_neg (by rw [Hz.out]; exact hzn), Hy.out]
              unfold nx; omega)
            have HJ2 := Lib.hid (Hs.out n k wr hkl (by rw [Hz.out]; exact hzn) HK.out)
            go_wp2
            go_roundw
            case rel => exact ⟨k + 1, y, rfl, by go_num, by omega, by omega, Hy1, HJ2⟩
            case measure => simp [intOf]; omega
        · obtain rfl : k = ls.length := by omega
          have HJ2 := Lib.hid (Hnx.out n wr HK.out)
          have Hy2 : Hid (y = en (lq ls) ls.length (n + 1)) := Lib.hid (by rw [Hy.out]; rfl)
          have hyb : y ≤ 10485760 := by rw [Hy2.out]; exact en_small (lq ls) hN (by omega)
          go_wp2
          go_roundw
          case rel => exact ⟨n + 1, y, rfl, by go_num, by omega, hyb, Hy2, HJ2⟩
          case measure => simp [intOf]; omega
    · obtain rfl : n = 15 := by omega
      go_wp2
      go_end0
      exact ⟨rfl, HJ.out⟩

set_option maxRecDepth 20000 in
set_option maxHeartbeats 2000000 in
theorem tellN_any (ls : List Nat) (v : Value) (B : Nat) (J : Nat → Nat → World → Prop) (w : World) (hN : ls.length ≤ 320) (hv : ∀ n k w, J n k w → Row enc8 1 w v ls)
    (hh : ∀ n k w, n < 15 → k < ls.length → lq ls k = n + 1 → J n k w → Calls Try.prog 88 #[.int .i64 (k : Int), .agg #[.int .u16 ((trn (n + 1) 0 (nx (lq ls) ls.length n k) : Nat) : Int), .int .u16 ((n + 1 : Nat) : Int)], .pointer (some ⟨B, 0, none⟩)] w fun e w' => e = .returned (.tuple #[]) ∧ J n (k + 1) w')
    (hs : ∀ n k w, k < ls.length → lq ls k ≠ n + 1 → J n k w → J n (k + 1) w) (hn : ∀ n w, J n ls.length w → J (n + 1) 0 w) (h0 : J 0 0 w) :
    Calls Try.prog 36 #[v, .func (.func 88) #[] #[.pointer (some ⟨B, 0, none⟩)]] w fun e w' => e = .returned (.tuple #[]) ∧ J 15 0 w' := by
  obtain ⟨p, c, rfl, -, -, -⟩ := hv 0 0 w h0
  have Hv := Lib.hid hv
  have Hh := Lib.hid hh
  have Hs := Lib.hid hs
  have Hnx := Lib.hid hn
  have H0 := Lib.hid h0
  clear hv hh hs hn h0
  go_enter Try.func36, Try.ntmps36
  go_wp2
  go_loopw [4, 5] (fun xv nv wr => ∃ (n x : Nat), xv = .int .u32 (x : Int) ∧ nv = .int .u8 ((n : Int) + 1) ∧ n ≤ 15 ∧ x ≤ 10485760 ∧ Hid (x = en (lq ls) ls.length n) ∧ Hid (J n 0 wr)) (fun _ nv _ => 16 - (intOf nv).toNat)
  case atStart => exact ⟨0, 0, rfl, rfl, by omega, by omega, Lib.hid rfl, H0⟩
  case round =>
    obtain ⟨n, x, rfl, rfl, hn, hx, Hx, HJ⟩ := hrel
    by_cases hlt : n < 15
    · have d0 : (n : Int) + 1 ≤ 15 := by omega
      go_wp2
      go_loopw [4, 16] (fun yv kv ws => ∃ (k y : Nat), yv = .int .u32 (y : Int) ∧ kv = .int .i64 (k : Int) ∧ k ≤ ls.length ∧ y ≤ 2 * x + k ∧ Hid (y = nx (lq ls) ls.length n k) ∧ Hid (J n k ws)) (fun _ kv _ => ls.length - (intOf kv).toNat)
      case atStart => exact ⟨0, x * 2, by go_num, rfl, Nat.zero_le _, by omega, Lib.hid (by rw [Hx.out]; unfold nx; simp [cn, sm]), HJ⟩
      case round =>
        obtain ⟨k, y, rfl, rfl, hk, hy, Hy, HK⟩ := hrel
        by_cases hkl : k < ls.length
        · obtain ⟨p', c', e', _, _, hrow⟩ := Hv.out n k wr HK.out
          cases e'
          obtain ⟨g, off, rfl, hcell⟩ := hrow.byte hkl
          obtain ⟨z, hz⟩ : ∃ z, lq ls k = z := ⟨_, rfl⟩
          rw [hz] at hcell
          unfold u8v at hcell
          have Hz := Lib.hid hz
          have k0 : (0 : Int) ≤ (k : Int) := by omega
          have k1 : (k : Int) < (ls.length : Int) := by omega
          clear hrow hz
          by_cases hzn : z = n + 1
          · subst hzn
            rw [show ((n + 1 : Nat) : Int) = (n : Int) + 1 by omega] at hcell
            have ht := turned_any y (n + 1) wr (by omega) (by omega)
            rw [show ((n + 1 : Nat) : Int) = (n : Int) + 1 by omega] at ht
            have hhand := Hh.out n k wr hlt hkl Hz.out HK.out
            rw [← Hy.out, show ((n + 1 : Nat) : Int) = (n : Int) + 1 by omega] at hhand
            have Ht := Lib.hid ht
            have Hhand := Lib.hid hhand
            have Hy1 : Hid (y + 1 = nx (lq ls) ls.length n (k + 1)) := Lib.hid (by
              unfold nx
              rw [cn_succ, if_pos Hz.out, Hy.out]
              unfold nx; omega)
            clear ht hhand
            go_wp2_with fail
            refine Calls.mono Ht.out ?_
            rintro e w1 ⟨rfl, rfl⟩
            go_wp2_with fail
            refine Calls.mono Hhand.out ?_
            rintro e w2 ⟨rfl, hj⟩
            have HJ2 := Lib.hid hj
            clear hj
            go_wp2
            go_roundw
            case rel => exact ⟨k + 1, y + 1, by go_num, by go_num, by omega, by omega, Hy1, HJ2⟩
            case measure => simp [intOf]; omega
          · have ez : ((z : Int) == (n : Int) + 1) = false := by simp; omega
            have Hy1 : Hid (y = nx (lq ls) ls.length n (k + 1)) := Lib.hid (by
              unfold nx
              rw [cn_succ, if_neg (by rw [Hz.out]; exact hzn), Hy.out]
              unfold nx; omega)
            have HJ2 := Lib.hid (Hs.out n k wr hkl (by rw [Hz.out]; exact hzn) HK.out)
            go_wp2
            go_roundw
            case rel => exact ⟨k + 1, y, rfl, by go_num, by omega, by omega, Hy1, HJ2⟩
            case measure => simp [intOf]; omega
        · obtain rfl : k = ls.length := by omega
          have HJ2 := Lib.hid (Hnx.out n wr HK.out)
          have Hy2 : Hid (y = en (lq ls) ls.length (n + 1)) := Lib.hid (by rw [Hy.out]; rfl)
          have hyb : y ≤ 10485760 := by rw [Hy2.out]; exact en_small (lq ls) hN (by omega)
          go_wp2
          go_roundw
          case rel => exact ⟨n + 1, y, rfl, by go_num, by omega, hyb, Hy2, HJ2⟩
          case measure => simp [intOf]; omega
    · obtain rfl : n = 15 := by omega
      go_wp2
      go_end0
      exact ⟨rfl, HJ.out⟩

end Go.Proofs.Ytajidlihepjegaa
