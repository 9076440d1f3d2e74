/- Several texts in one, each with its own head. -/
import Derived.Test.YtoladolgmeanhaaGreatQc8
import Derived.Maps.OwnSet
import Derived.Maps.OwnOps
import Derived.DeepKeys4
/- huff's turned. -/
namespace Go.Proofs.YtoladolgmeanhaaGreat
open Go.RowKit

def trn : Nat → Nat → Nat → Nat
  | 0, acc, _ => acc
  | s + 1, acc, x => trn s (acc * 2 + x % 2) (x / 2)
theorem and_one_u32 (x : Nat) (h : x < 4294967296) : bits .and .u32 (x : Int) 1 = ((x % 2 : Nat) : Int) := by
  have := bits_mask .u32 32 (by decide) (fun m h0 h1 => by rw [IntKind.wrap_u32]; omega) 1 (by omega) x (by omega) (by omega)
  simpa using this
theorem or_low_u16 (a b : Nat) (ha : a < 32768) (hb : b < 2) : bits .or .u16 ((a : Int) * 2) (b : Int) = ((a * 2 + b : Nat) : Int) := by
  have e : ((a : Int) * 2) = ((a * 2 : Nat) : Int) := by simp
  rw [e, (bits_nat .u16 16 (by decide) (fun m h0 h1 => by rw [IntKind.wrap_u16]; omega) (a * 2) b (by omega) (by omega)).2]
  have h := Nat.two_pow_add_eq_or_of_lt (i := 1) (b := b) (by omega) a
  rw [Nat.mul_comm a 2]
  simp only [Nat.pow_one] at h
  rw [h]
set_option maxHeartbeats 1000000 in
theorem turned_any (x s : Nat) (w : World) (hx : x < 4294967296) (hs : s ≤ 15) :
    Calls Tryz.prog 165 #[.int .u32 (x : Int), .int .u8 (s : Int)] w fun e w' => e = .returned (.int .u16 ((trn s 0 x : Nat) : Int)) ∧ w' = w := by
  obtain ⟨r, hr⟩ : ∃ r, trn s 0 x = r := ⟨_, rfl⟩
  rw [hr]
  have Hr := Lib.hid hr
  clear hr
  go_enter Tryz.func165, Tryz.ntmps165
  go_wp2
  go_loop [0, 5, 7] (fun xv av kv => ∃ (k y a : Nat), xv = .int .u32 (y : Int) ∧ av = .int .u16 (a : Int) ∧ kv = .int .u8 (k : Int) ∧ k ≤ s ∧ y < 4294967296 ∧ Hid (a < 2 ^ k ∧ trn (s - k) a y = r)) (fun _ _ kv => s - (intOf kv).toNat)
  case atStart => exact ⟨0, x, 0, rfl, rfl, rfl, Nat.zero_le _, hx, Lib.hid ⟨by simp, Hr.out⟩⟩
  case round =>
    obtain ⟨k, y, a, rfl, rfl, rfl, hk, hy, HI⟩ := hrel
    by_cases hlt : k < s
    · have d0 : decide (k < s) = true := by simpa using hlt
      have ha : a < 32768 := by
        have h1 := HI.out.1
        have h2 : 2 ^ k ≤ 2 ^ 14 := Nat.pow_le_pow_right (by decide) (by omega)
        have h3 : (2 : Nat) ^ 14 = 16384 := rfl
        omega
      have hand := and_one_u32 y hy
      obtain ⟨b, hb⟩ : ∃ b, y % 2 = b := ⟨_, rfl⟩
      rw [hb] at hand
      have hb2 : b < 2 := by omega
      have hor := or_low_u16 a b ha hb2
      obtain ⟨c, hc⟩ : ∃ c, a * 2 + b = c := ⟨_, rfl⟩
      rw [hc] at hor
      have HI1 : Hid (c < 2 ^ (k + 1) ∧ trn (s - (k + 1)) c (y / 2) = r) := Lib.hid (by
        obtain ⟨h1, h2⟩ := HI.out
        rw [show s - k = (s - (k + 1)) + 1 by omega, trn, hb, hc] at h2
        refine ⟨?_, h2⟩
        rw [Nat.pow_succ]; omega)
      have hc16 : c < 65536 := by omega
      clear hb hc
      go_wp2
      go_round
      case rel => exact ⟨k + 1, y / 2, c, by go_num, by go_num, by go_num, by omega, by omega, HI1⟩
      case measure => simp [intOf]; omega
    · obtain rfl : k = s := by omega
      have d0 : decide (k < k) = false := by simp
      have h2 := HI.out.2
      rw [Nat.sub_self, trn] at h2
      subst h2
      go_wp2
      go_ret
      exact ⟨rfl, rfl⟩
end Go.Proofs.YtoladolgmeanhaaGreat

/- huff's tell: the codes of lengths, handed on one by one. -/
namespace Go.Proofs.YtoladolgmeanhaaGreat
open Go.RowKit

def cn (f : Nat → Nat) (n k : Nat) : Nat := sm k fun i => if f i = n then 1 else 0
theorem cn_succ (f : Nat → Nat) (n k : Nat) : cn f n (k + 1) = cn f n k + (if f k = n then 1 else 0) := rfl
theorem cn_le (f : Nat → Nat) (n : Nat) : ∀ k, cn f n k ≤ k
  | 0 => Nat.le_refl _
  | k + 1 => by
    have := cn_le f n k
    rw [cn_succ]; split <;> omega
def en (f : Nat → Nat) (N : Nat) : Nat → Nat
  | 0 => 0
  | n + 1 => en f N n * 2 + cn f (n + 1) N
theorem en_le (f : Nat → Nat) (N : Nat) : ∀ n, en f N n + N ≤ N * 2 ^ n
  | 0 => by simp [en]
  | n + 1 => by
    have h1 := en_le f N n
    have h2 := cn_le f (n + 1) N
    rw [en, Nat.pow_succ, ← Nat.mul_assoc]
    omega
theorem en_small (f : Nat → Nat) {N n : Nat} (hN : N ≤ 320) (hn : n ≤ 15) : en f N n ≤ 10485760 := by
  have h1 := en_le f N n
  have h2 : 2 ^ n ≤ 2 ^ 15 := Nat.pow_le_pow_right (by decide) hn
  have h3 : (2 : Nat) ^ 15 = 32768 := rfl
  rw [h3] at h2
  have h4 : N * 2 ^ n ≤ 320 * 32768 := Nat.mul_le_mul hN h2
  omega
def nx (f : Nat → Nat) (N n k : Nat) : Nat := en f N n * 2 + cn f (n + 1) k
set_option maxRecDepth 20000 in
set_option maxHeartbeats 2000000 in
theorem tellC_any (ls : List Nat) (v : Value) (B : Nat) (J : Nat → Nat → World → Prop) (w : World) (hN : ls.length ≤ 320) (hv : ∀ n k w, J n k w → Row enc8 1 w v ls)
    (hh : ∀ n k w, n < 15 → k < ls.length → lq ls k = n + 1 → J n k w → Calls Tryz.prog 156 #[.int .i64 (k : Int), .agg #[.int .u16 ((trn (n + 1) 0 (nx (lq ls) ls.length n k) : Nat) : Int), .int .u16 ((n + 1 : Nat) : Int)], .pointer (some ⟨B, 0, none⟩)] w fun e w' => e = .returned (.tuple #[]) ∧ J n (k + 1) w')
    (hs : ∀ n k w, k < ls.length → lq ls k ≠ n + 1 → J n k w → J n (k + 1) w) (hn : ∀ n w, J n ls.length w → J (n + 1) 0 w) (h0 : J 0 0 w) :
    Calls Tryz.prog 155 #[v, .func (.func 156) #[] #[.pointer (some ⟨B, 0, none⟩)]] w fun e w' => e = .returned (.tuple #[]) ∧ J 15 0 w' := by
  obtain ⟨p, c, rfl, -, -, -⟩ := hv 0 0 w h0
  have Hv := Lib.hid hv
  have Hh := Lib.hid hh
  have Hs := Lib.hid hs
  have Hnx := Lib.hid hn
  have H0 := Lib.hid h0
  clear hv hh hs hn h0
  go_enter Tryz.func155, Tryz.ntmps155
  go_wp2
  go_loopw [4, 5] (fun xv nv wr => ∃ (n x : Nat), xv = .int .u32 (x : Int) ∧ nv = .int .u8 ((n : Int) + 1) ∧ n ≤ 15 ∧ x ≤ 10485760 ∧ Hid (x = en (lq ls) ls.length n) ∧ Hid (J n 0 wr)) (fun _ nv _ => 16 - (intOf nv).toNat)
  case atStart => exact ⟨0, 0, rfl, rfl, by omega, by omega, Lib.hid rfl, H0⟩
  case round =>
    obtain ⟨n, x, rfl, rfl, hn, hx, Hx, HJ⟩ := hrel
    by_cases hlt : n < 15
    · have d0 : (n : Int) + 1 ≤ 15 := by omega
      go_wp2
      go_loopw [4, 16] (fun yv kv ws => ∃ (k y : Nat), yv = .int .u32 (y : Int) ∧ kv = .int .i64 (k : Int) ∧ k ≤ ls.length ∧ y ≤ 2 * x + k ∧ Hid (y = nx (lq ls) ls.length n k) ∧ Hid (J n k ws)) (fun _ kv _ => ls.length - (intOf kv).toNat)
      case atStart => exact ⟨0, x * 2, by go_num, rfl, Nat.zero_le _, by omega, Lib.hid (by rw [Hx.out]; unfold nx; simp [cn, sm]), HJ⟩
      case round =>
        obtain ⟨k, y, rfl, rfl, hk, hy, Hy, HK⟩ := hrel
        by_cases hkl : k < ls.length
        · obtain ⟨p', c', e', _, _, hrow⟩ := Hv.out n k wr HK.out
          cases e'
          obtain ⟨g, off, rfl, hcell⟩ := hrow.byte hkl
          obtain ⟨z, hz⟩ : ∃ z, lq ls k = z := ⟨_, rfl⟩
          rw [hz] at hcell
          unfold u8v at hcell
          have Hz := Lib.hid hz
          have k0 : (0 : Int) ≤ (k : Int) := by omega
          have k1 : (k : Int) < (ls.length : Int) := by omega
          clear hrow hz
          by_cases hzn : z = n + 1
          · subst hzn
            rw [show ((n + 1 : Nat) : Int) = (n : Int) + 1 by omega] at hcell
            have ht := turned_any y (n + 1) wr (by omega) (by omega)
            rw [show ((n + 1 : Nat) : Int) = (n : Int) + 1 by omega] at ht
            have hhand := Hh.out n k wr hlt hkl Hz.out HK.out
            rw [← Hy.out, show ((n + 1 : Nat) : Int) = (n : Int) + 1 by omega] at hhand
            have Ht := Lib.hid ht
            have Hhand := Lib.hid hhand
            have Hy1 : Hid (y + 1 = nx (lq ls) ls.length n (k + 1)) := Lib.hid (by
              unfold nx
              rw [cn_succ, if_pos Hz.out, Hy.out]
              unfold nx; omega)
            clear ht hhand
            go_wp2_with fail
            refine Calls.mono Ht.out ?_
            rintro e w1 ⟨rfl, rfl⟩
            go_wp2_with fail
            refine Calls.mono Hhand.out ?_
            rintro e w2 ⟨rfl, hj⟩
            have HJ2 := Lib.hid hj
            clear hj
            go_wp2
            go_roundw
            case rel => exact ⟨k + 1, y + 1, by go_num, by go_num, by omega, by omega, Hy1, HJ2⟩
            case measure => simp [intOf]; omega
          · have ez : ((z : Int) == (n : Int) + 1) = false := by simp; omega
            have Hy1 : Hid (y = nx (lq ls) ls.length n (k + 1)) := Lib.hid (by
              unfold nx
              rw [cn_succ, if_neg (by rw [Hz.out]; exact hzn), Hy.out]
              unfold nx; omega)
            have HJ2 := Lib.hid (Hs.out n k wr hkl (by rw [Hz.out]; exact hzn) HK.out)
            go_wp2
            go_roundw
            case rel => exact ⟨k + 1, y, rfl, by go_num, by omega, by omega, Hy1, HJ2⟩
            case measure => simp [intOf]; omega
        · obtain rfl : k = ls.length := by omega
          have HJ2 := Lib.hid (Hnx.out n wr HK.out)
          have Hy2 : Hid (y = en (lq ls) ls.length (n + 1)) := Lib.hid (by rw [Hy.out]; rfl)
          have hyb : y ≤ 10485760 := by rw [Hy2.out]; exact en_small (lq ls) hN (by omega)
          go_wp2
          go_roundw
          case rel => exact ⟨n + 1, y, rfl, by go_num, by omega, hyb, Hy2, HJ2⟩
          case measure => simp [intOf]; omega
    · obtain rfl : n = 15 := by omega
      go_wp2
      go_end0
      exact ⟨rfl, HJ.out⟩
set_option maxRecDepth 20000 in
set_option maxHeartbeats 2000000 in
theorem tellN_any (ls : List Nat) (v : Value) (B : Nat) (J : Nat → Nat → World → Prop) (w : World) (hN : ls.length ≤ 320) (hv : ∀ n k w, J n k w → Row enc8 1 w v ls)
    (hh : ∀ n k w, n < 15 → k < ls.length → lq ls k = n + 1 → J n k w → Calls Tryz.prog 185 #[.int .i64 (k : Int), .agg #[.int .u16 ((trn (n + 1) 0 (nx (lq ls) ls.length n k) : Nat) : Int), .int .u16 ((n + 1 : Nat) : Int)], .pointer (some ⟨B, 0, none⟩)] w fun e w' => e = .returned (.tuple #[]) ∧ J n (k + 1) w')
    (hs : ∀ n k w, k < ls.length → lq ls k ≠ n + 1 → J n k w → J n (k + 1) w) (hn : ∀ n w, J n ls.length w → J (n + 1) 0 w) (h0 : J 0 0 w) :
    Calls Tryz.prog 155 #[v, .func (.func 185) #[] #[.pointer (some ⟨B, 0, none⟩)]] w fun e w' => e = .returned (.tuple #[]) ∧ J 15 0 w' := by
  obtain ⟨p, c, rfl, -, -, -⟩ := hv 0 0 w h0
  have Hv := Lib.hid hv
  have Hh := Lib.hid hh
  have Hs := Lib.hid hs
  have Hnx := Lib.hid hn
  have H0 := Lib.hid h0
  clear hv hh hs hn h0
  go_enter Tryz.func155, Tryz.ntmps155
  go_wp2
  go_loopw [4, 5] (fun xv nv wr => ∃ (n x : Nat), xv = .int .u32 (x : Int) ∧ nv = .int .u8 ((n : Int) + 1) ∧ n ≤ 15 ∧ x ≤ 10485760 ∧ Hid (x = en (lq ls) ls.length n) ∧ Hid (J n 0 wr)) (fun _ nv _ => 16 - (intOf nv).toNat)
  case atStart => exact ⟨0, 0, rfl, rfl, by omega, by omega, Lib.hid rfl, H0⟩
  case round =>
    obtain ⟨n, x, rfl, rfl, hn, hx, Hx, HJ⟩ := hrel
    by_cases hlt : n < 15
    · have d0 : (n : Int) + 1 ≤ 15 := by omega
      go_wp2
      go_loopw [4, 16] (fun yv kv ws => ∃ (k y : Nat), yv = .int .u32 (y : Int) ∧ kv = .int .i64 (k : Int) ∧ k ≤ ls.length ∧ y ≤ 2 * x + k ∧ Hid (y = nx (lq ls) ls.length n k) ∧ Hid (J n k ws)) (fun _ kv _ => ls.length - (intOf kv).toNat)
      case atStart => exact ⟨0, x * 2, by go_num, rfl, Nat.zero_le _, by omega, Lib.hid (by rw [Hx.out]; unfold nx; simp [cn, sm]), HJ⟩
      case round =>
        obtain ⟨k, y, rfl, rfl, hk, hy, Hy, HK⟩ := hrel
        by_cases hkl : k < ls.length
        · obtain ⟨p', c', e', _, _, hrow⟩ := Hv.out n k wr HK.out
          cases e'
          obtain ⟨g, off, rfl, hcell⟩ := hrow.byte hkl
          obtain ⟨z, hz⟩ : ∃ z, lq ls k = z := ⟨_, rfl⟩
          rw [hz] at hcell
          unfold u8v at hcell
          have Hz := Lib.hid hz
          have k0 : (0 : Int) ≤ (k : Int) := by omega
          have k1 : (k : Int) < (ls.length : Int) := by omega
          clear hrow hz
          by_cases hzn : z = n + 1
          · subst hzn
            rw [show ((n + 1 : Nat) : Int) = (n : Int) + 1 by omega] at hcell
            have ht := turned_any y (n + 1) wr (by omega) (by omega)
            rw [show ((n + 1 : Nat) : Int) = (n : Int) + 1 by omega] at ht
            have hhand := Hh.out n k wr hlt hkl Hz.out HK.out
            rw [← Hy.out, show ((n + 1 : Nat) : Int) = (n : Int) + 1 by omega] at hhand
            have Ht := Lib.hid ht
            have Hhand := Lib.hid hhand
            have Hy1 : Hid (y + 1 = nx (lq ls) ls.length n (k + 1)) := Lib.hid (by
              unfold nx
              rw [cn_succ, if_pos Hz.out, Hy.out]
              unfold nx; omega)
            clear ht hhand
            go_wp2_with fail
            refine Calls.mono Ht.out ?_
            rintro e w1 ⟨rfl, rfl⟩
            go_wp2_with fail
            refine Calls.mono Hhand.out ?_
            rintro e w2 ⟨rfl, hj⟩
            have HJ2 := Lib.hid hj
            clear hj
            go_wp2
            go_roundw
            case rel => exact ⟨k + 1, y + 1, by go_num, by go_num, by omega, by omega, Hy1, HJ2⟩
            case measure => simp [intOf]; omega
          · have ez : ((z : Int) == (n : Int) + 1) = false := by simp; omega
            have Hy1 : Hid (y = nx (lq ls) ls.length n (k + 1)) := Lib.hid (by
              unfold nx
              rw [cn_succ, if_neg (by rw [Hz.out]; exact hzn), Hy.out]
              unfold nx; omega)
            have HJ2 := Lib.hid (Hs.out n k wr hkl (by rw [Hz.out]; exact hzn) HK.out)
            go_wp2
            go_roundw
            case rel => exact ⟨k + 1, y, rfl, by go_num, by omega, by omega, Hy1, HJ2⟩
            case measure => simp [intOf]; omega
        · obtain rfl : k = ls.length := by omega
          have HJ2 := Lib.hid (Hnx.out n wr HK.out)
          have Hy2 : Hid (y = en (lq ls) ls.length (n + 1)) := Lib.hid (by rw [Hy.out]; rfl)
          have hyb : y ≤ 10485760 := by rw [Hy2.out]; exact en_small (lq ls) hN (by omega)
          go_wp2
          go_roundw
          case rel => exact ⟨n + 1, y, rfl, by go_num, by omega, hyb, Hy2, HJ2⟩
          case measure => simp [intOf]; omega
    · obtain rfl : n = 15 := by omega
      go_wp2
      go_end0
      exact ⟨rfl, HJ.out⟩
end Go.Proofs.YtoladolgmeanhaaGreat

/- huff's Codes. -/
namespace Go.Proofs.YtoladolgmeanhaaGreat
open Go.RowKit

def u16v (b : Nat) : Value := .int .u16 (b : Int)
theorem u16_info : (Tryz.prog.info? 120).map (fun i => (i.zero, i.size, i.bytes)) = some (some (.int .u16 0), 1, 2) := by kernel_rfl
def cRow (f : Nat → Nat) (n : Nat) : List Value := (List.range n).map fun i => u16v (f i)
theorem cRow_len (f : Nat → Nat) (n : Nat) : (cRow f n).length = n := by simp [cRow]
theorem cRow_at (f : Nat → Nat) {n s : Nat} (h : s < n) : (cRow f n)[s]? = some (u16v (f s)) := by
  unfold cRow
  rw [List.getElem?_map, List.getElem?_eq_getElem (by simpa using h)]
  simp
theorem cRow_congr {f g : Nat → Nat} {n : Nat} (h : ∀ i, i < n → f i = g i) : cRow f n = cRow g n := by
  unfold cRow
  refine List.map_congr_left fun i hi => ?_
  rw [h i (List.mem_range.1 hi)]
theorem cRow_set (f : Nat → Nat) {n s : Nat} (x : Nat) : (cRow f n).set s (u16v x) = cRow (fun i => if i = s then x else f i) n := by
  refine List.ext_getElem? (fun k => ?_)
  rw [List.getElem?_set, cRow_len]
  by_cases hk : k < n
  · rw [cRow_at (fun i => if i = s then x else f i) hk, cRow_at f hk]
    by_cases h : s = k
    · subst h; simp [hk]
    · simp [h, Ne.symm h]
  · rw [List.getElem?_eq_none (by rw [cRow_len]; omega), List.getElem?_eq_none (by rw [cRow_len]; omega)]
    by_cases h : s = k
    · subst h; simp [hk]
    · simp [h]
theorem made_u16 (n : Nat) : madeCells #[Value.int .u16 0] n = (cRow (fun _ => 0) n).toArray := by
  refine Array.ext (by simp [cRow, size_madeCells]) (fun i h1 h2 => ?_)
  simp [madeCells, cRow, Nat.mod_one, u16v]
theorem make_u16 (n : Nat) (hn : n ≤ 1048576) (w : World) : (Instr.makeSlice 66 (.int .i64 (n : Int)) (.int .i64 (n : Int))).run Tryz.prog w = .ok (.slice (some ⟨w.heap.size, 0, none⟩) n n) (w.alloc (.cells (cRow (fun _ => 0) n).toArray 120)) := by
  obtain ⟨i, hi, hz, hs, hb⟩ := info_parts u16_info
  have h := run_make (P := Tryz.prog) w 66 120 i _ Tryz.underlying66 hi hz .i64 .i64 (n : Int) (n : Int) (by omega) (Int.le_refl _) (by rw [hb]; omega) (by omega)
  rw [h]
  simp only [Int.toNat_natCast, hs, Nat.mul_one]
  rw [show (Value.int IntKind.u16 0).cells = #[Value.int .u16 0] from rfl, made_u16]
def cd (f : Nat → Nat) (N i : Nat) : Nat := trn (f i) 0 (nx f N (f i - 1) i)
def told (f : Nat → Nat) (N n k i : Nat) : Nat := if 0 < f i ∧ (f i ≤ n ∨ (f i = n + 1 ∧ i < k)) then cd f N i else 0
theorem told_next (f : Nat → Nat) (N n i : Nat) (hi : i < N) : told f N n N i = told f N (n + 1) 0 i := by
  unfold told
  by_cases h : 0 < f i ∧ (f i ≤ n ∨ (f i = n + 1 ∧ i < N))
  · rw [if_pos h, if_pos ⟨h.1, .inl (by omega)⟩]
  · rw [if_neg h, if_neg (fun h' => h ⟨h'.1, by omega⟩)]
theorem told_skip (f : Nat → Nat) (N n k i : Nat) (h : f k ≠ n + 1) : told f N n k i = told f N n (k + 1) i := by
  unfold told
  by_cases h1 : 0 < f i ∧ (f i ≤ n ∨ (f i = n + 1 ∧ i < k))
  · rw [if_pos h1, if_pos ⟨h1.1, by omega⟩]
  · rw [if_neg h1, if_neg (fun h' => h1 ⟨h'.1, by
      rcases h'.2 with h2 | ⟨h2, h3⟩
      · exact .inl h2
      · refine .inr ⟨h2, ?_⟩
        rcases Nat.lt_or_ge i k with h4 | h4
        · exact h4
        · obtain rfl : i = k := by omega
          exact absurd h2 h⟩)]
theorem told_hand (f : Nat → Nat) (N n k i : Nat) (h : f k = n + 1) : (if i = k then trn (n + 1) 0 (nx f N n k) else told f N n k i) = told f N n (k + 1) i := by
  unfold told
  by_cases e : i = k
  · subst e
    rw [if_pos rfl, if_pos ⟨by omega, .inr ⟨h, by omega⟩⟩]
    unfold cd
    rw [h, Nat.add_sub_cancel]
  · rw [if_neg e]
    by_cases h1 : 0 < f i ∧ (f i ≤ n ∨ (f i = n + 1 ∧ i < k))
    · rw [if_pos h1, if_pos ⟨h1.1, by omega⟩]
    · rw [if_neg h1, if_neg (fun h' => h1 ⟨h'.1, by omega⟩)]
theorem told_all (f : Nat → Nat) (N i : Nat) (h : f i ≤ 15) : told f N 15 0 i = if 0 < f i then cd f N i else 0 := by
  unfold told
  by_cases h0 : 0 < f i
  · rw [if_pos ⟨h0, .inl h⟩, if_pos h0]
  · rw [if_neg (fun h' => h0 h'.1), if_neg h0]
structure CJ (w0 : World) (v : Value) (ls : List Nat) (B g : Nat) (n k : Nat) (w : World) : Prop where
  box : w.heap[B]? = some (.cells #[.slice (some ⟨g, 0, none⟩) ls.length ls.length] 66)
  row : w.ownsRow w0.heap.size 120 1 (.slice (some ⟨g, 0, none⟩) ls.length ls.length) ls.length (cRow (told (lq ls) ls.length n k) ls.length)
  lens : Row enc8 1 w v ls
  below : Below w0.heap.size w0 w
  ne : g ≠ B
  lt : w0.heap.size ≤ B
set_option maxHeartbeats 1000000 in
theorem codes1_any (w0 : World) (v : Value) (ls : List Nat) (B g n k : Nat) (w : World) (hv0 : ∀ b, v.ownBlock = some b → b < w0.heap.size) (hk : k < ls.length) (hl : lq ls k = n + 1) (h : CJ w0 v ls B g n k w) :
    Calls Tryz.prog 156 #[.int .i64 (k : Int), .agg #[.int .u16 ((trn (n + 1) 0 (nx (lq ls) ls.length n k) : Nat) : Int), .int .u16 ((n + 1 : Nat) : Int)], .pointer (some ⟨B, 0, none⟩)] w fun e w' => e = .returned (.tuple #[]) ∧ CJ w0 v ls B g n (k + 1) w' := by
  obtain ⟨x, hx⟩ : ∃ x, trn (n + 1) 0 (nx (lq ls) ls.length n k) = x := ⟨_, rfl⟩
  rw [hx]
  obtain ⟨z, hz⟩ : ∃ z : Int, ((n + 1 : Nat) : Int) = z := ⟨_, rfl⟩
  rw [hz]
  obtain ⟨W, hW⟩ : ∃ W, w.alloc (.cells #[.int .u16 (x : Int), .int .u16 z] 217) = W := ⟨_, rfl⟩
  have hbw : Below w.heap.size w W := by rw [← hW]; exact Below.al1 w _
  have hbox : W.heap[B]? = some (.cells #[.slice (some ⟨g, 0, none⟩) ls.length ls.length] 66) := (hbw.block B (lt_heap h.box)).trans h.box
  have hrow := (Turns.of_below' (T := fun _ => False) hbw).owns h.row (fun _ _ h => h)
  have c0 : W.cell? ⟨B, 0, none⟩ = some (.slice (some ⟨g, 0, none⟩) ls.length ls.length) := cell_heap hbox rfl
  have c1 : W.cell? ⟨w.heap.size, 0, none⟩ = some (.int .u16 (x : Int)) := by rw [← hW]; exact cell_at rfl rfl
  have c2 : W.cell? ⟨g, k, none⟩ = some (u16v (told (lq ls) ls.length n k k)) := by rw [hrow.cellAt k (by omega), cRow_at _ hk]
  have f2 : W.frozen? ⟨g, k, none⟩ = false := hrow.frozenAt k
  obtain ⟨y, hy⟩ : ∃ y, told (lq ls) ls.length n k k = y := ⟨_, rfl⟩
  rw [hy] at c2
  unfold u16v at c2
  have HJ : Hid (CJ w0 v ls B g n (k + 1) (W.setCell ⟨g, k, none⟩ (.int .u16 (x : Int)))) := Lib.hid (by
    have ht : Turns (fun i => i = g) W (W.setCell ⟨g, k, none⟩ (.int .u16 (x : Int))) := (Turns.refl _ W).set (T := fun i => i = g) (p := ⟨g, k, none⟩) rfl _
    have hgw := (h.row.lt g rfl).1
    refine ⟨(ht.block B (lt_heap hbox) (fun e => h.ne e.symm)).trans hbox, ?_, ?_, ?_, h.ne, h.lt⟩
    · have h5 := (hrow.stored k (u16v x)).1
      rw [cRow_set] at h5
      rw [cRow_congr (fun i _ => (told_hand (lq ls) ls.length n k i hl).symm)]
      rw [hx]; exact h5
    · exact (h.lens.below hbw).turns ht (fun b hb e => by have := hv0 b hb; omega)
    · exact (Below.thn h.below hbw).trans (ht.below (by have := h.below.size; have := hbw.size; omega) (fun i e => by omega)))
  have k0 : (0 : Int) ≤ (k : Int) := by omega
  have k1 : (k : Int) < (ls.length : Int) := by omega
  clear hx hbox hrow hy hbw h hz
  subst hW
  go_enter Tryz.func156, Tryz.ntmps156
  go_wp2
  go_end0
  exact ⟨rfl, HJ.out⟩
theorem chk_zero {ls : List Nat} (h : chk ls = 0) : ls.length ≤ 320 ∧ (∀ i, i < ls.length → lq ls i ≤ 15) ∧ (many ls.length (lq ls) = 0 ∨ room ls.length 15 (lq ls) = 32768 ∨ (many ls.length (lq ls) = 1 ∧ room ls.length 15 (lq ls) = 16384)) := by
  have h1 : ls.length ≤ 320 := by
    rcases Nat.lt_or_ge 320 ls.length with h1 | h1
    · rw [chk_long h1] at h; cases h
    · exact h1
  have h2 : ∀ i, i < ls.length → lq ls i ≤ 15 := fun i hi => by
    rcases Nat.lt_or_ge 15 (lq ls i) with h2 | h2
    · rw [chk_wide hi h2] at h; cases h
    · exact h2
  refine ⟨h1, h2, ?_⟩
  rw [chk_rest h1 h2] at h
  split at h
  · assumption
  · cases h
set_option maxHeartbeats 1000000 in
theorem codes_ok (ls : List Nat) (v : Value) (w : World) (hv : Row enc8 1 w v ls) (hc : chk ls = 0) :
    Calls Tryz.prog 136 #[v] w fun e w' => ∃ v', e = .returned (.tuple #[v', .int .i64 0]) ∧ w'.ownsRow w.heap.size 120 1 v' ls.length (cRow (fun i => if 0 < lq ls i then cd (lq ls) ls.length i else 0) ls.length) ∧ Below w.heap.size w w' := by
  obtain ⟨h1, h2, -⟩ := chk_zero hc
  have hvb : ∀ k, v.ownBlock = some k → k < w.heap.size := fun k hk => by
    obtain ⟨p, c, rfl, _, _, h⟩ := hv
    rcases h with ⟨rfl, -⟩ | ⟨bb, off, rfl, hbb, -⟩
    · cases hk
    · cases hk; exact hbb
  have Hv := Lib.hid hv
  have Hc := Lib.hid hc
  have H2 := Lib.hid h2
  have Hvb := Lib.hid hvb
  obtain ⟨p, c, rfl, -, -, -⟩ := hv
  have hmk := make_u16 ls.length (by omega)
  have hz : ∀ i, told (lq ls) ls.length 0 0 i = 0 := fun i => by unfold told; rw [if_neg]; omega
  have Hst : Hid (CJ w (.slice p ls.length c) ls (w.heap.size + 1) w.heap.size 0 0 ((w.alloc (.cells (cRow (fun _ => 0) ls.length).toArray 120)).alloc (.cells #[.slice (some ⟨w.heap.size, 0, none⟩) ls.length ls.length] 66))) := Lib.hid (by
    have hb2 := Below.al2 w (.cells (cRow (fun _ => 0) ls.length).toArray 120) (.cells #[.slice (some ⟨w.heap.size, 0, none⟩) ls.length ls.length] 66)
    refine ⟨?_, ?_, Hv.out.below hb2, hb2, by omega, by omega⟩
    · exact (heap_pushed [.cells (cRow (fun _ => 0) ls.length).toArray 120, .cells #[.slice (some ⟨w.heap.size, 0, none⟩) ls.length ls.length] 66] w 1 _).2 rfl
    · rw [cRow_congr (fun i _ => hz i)]
      have := World.ownsRow_lit (base := w.heap.size) (size := 1) (e := 120) w (cRow (fun _ => 0) ls.length).toArray ls.length (Nat.le_refl _) (by simp only [maxLen]; omega) (by simp [cRow_len])
      exact this.alloc _)
  clear hc h2 hvb hz
  go_enter Tryz.func136, Tryz.ntmps136
  go_wp2_with fail
  refine Calls.mono (check_any ls _ w Hv.out) ?_
  rintro e w1 ⟨rfl, rfl⟩
  rw [Hc.out]
  go_wp2_with fail
  refine Calls.mono (tellC_any ls _ (w1.heap.size + 1) (fun n k w' => CJ w1 (.slice p ls.length c) ls (w1.heap.size + 1) w1.heap.size n k w') _ h1 (fun n k w' h => h.lens) (fun n k w' _ hk hl h => codes1_any w1 _ ls _ _ n k w' Hvb.out hk hl h)
    (fun n k w' hk hl h => ⟨h.box, by rw [cRow_congr (fun i _ => (told_skip (lq ls) ls.length n k i hl).symm)]; exact h.row, h.lens, h.below, h.ne, h.lt⟩)
    (fun n w' h => ⟨h.box, by rw [cRow_congr (fun i hi => (told_next (lq ls) ls.length n i hi).symm)]; exact h.row, h.lens, h.below, h.ne, h.lt⟩) Hst.out) ?_
  rintro e w2 ⟨rfl, hj⟩
  have HJ := Lib.hid hj
  have c0 : w2.cell? ⟨w1.heap.size + 1, 0, none⟩ = some (.slice (some ⟨w1.heap.size, 0, none⟩) ls.length ls.length) := cell_heap hj.box rfl
  clear hj
  go_wp2
  go_ret2
  refine ⟨_, rfl, ?_, HJ.out.below⟩
  rw [cRow_congr (fun i hi => (told_all (lq ls) ls.length i (H2.out i hi)).symm)]
  exact HJ.out.row
end Go.Proofs.YtoladolgmeanhaaGreat

/- The statements' own: is an example what it is; how many frequencies are above nought. -/
namespace Go.Proofs.YtoladolgmeanhaaGreat
open Go.RowKit

theorem row_lit8 (w : World) (ls : List Nat) (h : ls.length ≤ 1048576) : Row enc8 1 (w.alloc (.cells (ls.map u8v).toArray 5)) (.slice (some ⟨w.heap.size, 0, none⟩) ls.length ls.length) ls := by
  have := World.ownsRow_lit (base := 0) (size := 1) (e := 5) w (ls.map u8v).toArray ls.length (Nat.zero_le _) (by simp only [maxLen]; omega) (by simp)
  rw [show (ls.map u8v).toArray.toList = ls.flatMap enc8 from (flat8 ls).symm] at this
  exact owns_row' enc8_len this
theorem owns_ptr {w : World} {base : Nat} {e : TypeId} {v : Value} {n : Nat} {xs : List Value} (h : w.ownsRow base e 1 v n xs) (hn : 0 < n) : ∃ g c, v = .slice (some ⟨g, 0, none⟩) n c ∧ base ≤ g ∧ g < w.heap.size ∧ ∀ i u, xs[i]? = some u → w.cell? ⟨g, i, none⟩ = some u := by
  have hl := h.1
  rcases h.2 with ⟨-, h0⟩ | ⟨g, cap, cur, rfl, hg, hh, -⟩
  · omega
  · refine ⟨g, cap, rfl, hg, lt_heap hh, fun i u hi => ?_⟩
    have := (List.getElem?_eq_some_iff.1 hi).1
    rw [h.cellAt i (by omega)]; exact hi
end Go.Proofs.YtoladolgmeanhaaGreat

/- What the statements ask of best lengths: who is more frequent has no longer code; twice the frequencies, twice the cost; Lengths whatever is asked. -/
namespace Go.Proofs.YtoladolgmeanhaaGreat
open Go.RowKit

end Go.Proofs.YtoladolgmeanhaaGreat

/- Maps whose keys are codes: what a store and a look-up do. -/
namespace Go.Proofs.YtoladolgmeanhaaGreat
open Go.RowKit Go.Maps

set_option maxRecDepth 100000

def ck (k : Nat × Nat) : Value := .agg #[.int .u16 (k.1 : Int), .int .u16 (k.2 : Int)]
noncomputable def codeFields : Array Field := match Tryz.prog.underlying 217 with | some (.struct fs) => fs | _ => #[]
theorem code_under : Tryz.prog.underlying 217 = some (.struct codeFields) := by kernel_rfl
theorem code_fields : codeFields.toList.map (fun f => (f.type, f.offset)) = [(120, 0), (120, 1)] := by kernel_rfl
theorem code_named : codeFields.all (·.name != "_") = true := by kernel_rfl
theorem code_cells : Tryz.prog.cellsOf 217 = 2 := by kernel_rfl
theorem u16_cells : Tryz.prog.cellsOf 120 = 1 := by kernel_rfl
theorem code_keyt : Tryz.prog.keyType 217 = true := by kernel_rfl
theorem types_pos : Tryz.prog.types.size = Tryz.prog.types.size - 1 + 1 := by kernel_rfl
theorem code_laid : laidOutB Tryz.prog = true := by kernel_rfl
theorem code_row : (217 : TypeId) < Tryz.prog.types.size := of_decide_eq_true (by kernel_rfl)
theorem code_wide : (match Tryz.prog.underlying 217 with | some (.array _ _) | some (.struct _) => true | _ => false) = true := by rw [code_under]
theorem code_tiled : Tryz.prog.keyTypeAt 2 217 = true := by kernel_rfl
theorem code_law : WideMaps.KeyLaw Tryz.prog 217 := deep_law_laid code_laid (m := 2) (by omega) code_row code_tiled code_wide
theorem code_keyed : Keyed Tryz.prog 217 := Keyed.of_law code_law
theorem code_formed {c0 c1 : Value} : (Value.agg #[c0, c1]).formed Tryz.prog 217 = true := by
  simp [Value.formed, code_cells]
theorem wf_u16 {a : Nat} (h : a < 65536) : (Lit.int .u16 (a : Int)).wf = true := by
  have hm : IntKind.u16.min = 0 := by decide
  have hx : IntKind.u16.max = 65535 := by decide
  simp [Lit.wf, hm, hx]; omega
theorem lit_u16 {a : Nat} (h : a < 65536) (d : Nat) : Tryz.prog.keyLits (d + 1) 120 [.int .u16 (a : Int)] = some [.int .u16 (a : Int)] := by
  have hu : Tryz.prog.underlying 120 = some (.int .u16) := by kernel_rfl
  unfold Program.keyLits
  rw [hu]
  simp [wf_u16 h]
def kl (k : Nat × Nat) : Lit := .string (keyBytes [.int .u16 (k.1 : Int), .int .u16 (k.2 : Int)])
theorem lits_code {k : Nat × Nat} (h1 : k.1 < 65536) (h2 : k.2 < 65536) (d : Nat) : Tryz.prog.keyLits (d + 2) 217 [.int .u16 (k.1 : Int), .int .u16 (k.2 : Int)] = some [.int .u16 (k.1 : Int), .int .u16 (k.2 : Int)] := by
  unfold Program.keyLits
  rw [code_under]
  have hm : codeFields.toList.mapM (fun f => Tryz.prog.keyLits (d + 1) f.type (([Value.int .u16 (k.1 : Int), .int .u16 (k.2 : Int)].drop f.offset).take (Tryz.prog.cellsOf f.type))) = some [[Lit.int .u16 (k.1 : Int)], [.int .u16 (k.2 : Int)]] := by
    have := List.mapM_map (m := Option) (f := fun f : Field => (f.type, f.offset)) (g := fun p : TypeId × Nat => Tryz.prog.keyLits (d + 1) p.1 (([Value.int .u16 (k.1 : Int), .int .u16 (k.2 : Int)].drop p.2).take (Tryz.prog.cellsOf p.1))) (l := codeFields.toList)
    rw [code_fields] at this
    refine this.symm.trans ?_
    simp [u16_cells, lit_u16 h1, lit_u16 h2]
  simp only [List.length_cons, List.length_nil, code_cells, code_named, hm]
  simp
theorem code_key {k : Nat × Nat} (h1 : k.1 < 65536) (h2 : k.2 < 65536) : keyOf Tryz.prog 217 (ck k) = some (kl k) := by
  unfold keyOf
  rw [code_under]
  simp only [code_keyt, ck, code_formed, Bool.and_self, if_true]
  have hd : Tryz.prog.types.size + 1 = Tryz.prog.types.size - 1 + 2 := by have := types_pos; omega
  rw [hd]
  have : (Value.agg #[.int .u16 (k.1 : Int), .int .u16 (k.2 : Int)]).cells.toList = [.int .u16 (k.1 : Int), .int .u16 (k.2 : Int)] := by simp [Value.cells]
  rw [this, lits_code h1 h2]
  rfl
theorem kl_inj {k k' : Nat × Nat} (h1 : k.1 < 65536) (h2 : k.2 < 65536) (h1' : k'.1 < 65536) (h2' : k'.2 < 65536) (h : kl k = kl k') : k = k' := by
  have e := code_keyed.inj (code_key h1 h2) (by rw [h]; exact code_key h1' h2')
  unfold ck at e
  simp only [Value.agg.injEq] at e
  simp at e
  exact Prod.ext (by omega) (by omega)
theorem kl_isKey (k : Nat × Nat) : WideAt.IsKeyLit (kl k) := trivial
noncomputable abbrev relem : Value → Option (DataW Unit × List MemPlace) := plainElem Tryz.prog 3
def MapAt (w : World) (M n : Nat) (F : Nat × Nat → Option Nat) : Prop :=
  ∃ D : DataW Unit, w.ownsMap Tryz.prog 217 relem M n D ∧ ∀ k : Nat × Nat, k.1 < 65536 → k.2 < 65536 → Maps.has D (kl k) = (F k).isSome ∧ ∀ x, F k = some x → ∀ z, D.atKey (kl k) z = .lit (.int .i64 (x : Int))
theorem int_under : Tryz.prog.underlying 3 = some (.int .i64) := by kernel_rfl
theorem map_under : Tryz.prog.underlying 254 = some (.map 217 3) := by kernel_rfl
theorem wf_small {x : Nat} (h : x ≤ 1000000) : (Lit.int .i64 (x : Int)).wf = true := by
  have hm : IntKind.i64.min = -9223372036854775808 := by decide
  have hx : IntKind.i64.max = 9223372036854775807 := by decide
  simp [Lit.wf, hm, hx]; omega
theorem MapAt.made (w : World) : MapAt (w.alloc (.map #[] 0)) w.heap.size 0 fun _ => none :=
  ⟨_, World.ownsMap_made w _ _ _, fun k _ _ => ⟨rfl, fun x h => by cases h⟩⟩
theorem MapAt.put {w : World} {M n x : Nat} {F : Nat × Nat → Option Nat} {k : Nat × Nat} (h : MapAt w M n F) (hn : n < maxLen) (h1 : k.1 < 65536) (h2 : k.2 < 65536) (hx : x ≤ 1000000) :
    ∃ w', (Instr.mapUpdate 254 (.map (some M)) (ck k) (.int .i64 (x : Int))).run Tryz.prog w = .ok () w' ∧ MapAt w' M (n + 1) (fun k' => if k' = k then some x else F k') ∧ w.mapTurned w' M := by
  obtain ⟨D, hD, hF⟩ := h
  obtain ⟨w', hr, ho, ht⟩ := hD.store code_keyed map_under hn (code_key h1 h2) (plainElem_int int_under (wf_small hx))
  refine ⟨w', hr, ⟨_, ho, fun k' g1 g2 => ?_⟩, ht⟩
  by_cases e : k' = k
  · subst e
    simp only [if_true, Option.isSome_some, Option.some.injEq]
    exact ⟨Maps.has_put_same hD.isMap (kl_isKey _) _, fun y hy z => by subst hy; exact Maps.atKey_put_same hD.isMap (kl_isKey _) _ z⟩
  · simp only [if_neg e]
    have hne : kl k' ≠ kl k := fun he => e (kl_inj g1 g2 h1 h2 he)
    exact ⟨by rw [Maps.has_put_other hne]; exact (hF k' g1 g2).1, fun y hy z => by rw [Maps.atKey_put_other hne]; exact (hF k' g1 g2).2 y hy z⟩
theorem int_zero (w : World) : (zeroValue 3).run Tryz.prog w = .ok (.int .i64 0) w := by
  kernel_rfl
theorem MapAt.look {w : World} {M n : Nat} {F : Nat × Nat → Option Nat} {k : Nat × Nat} (h : MapAt w M n F) (h1 : k.1 < 65536) (h2 : k.2 < 65536) :
    (Instr.lookup 254 (.map (some M)) (ck k) true).run Tryz.prog w = .ok (.tuple #[.int .i64 (((F k).getD 0 : Nat) : Int), .bool (F k).isSome]) w := by
  obtain ⟨D, hD, hF⟩ := h
  obtain ⟨v, ps, hr, hv⟩ := hD.look_ok code_keyed map_under (int_zero w) (plainElem_int int_under (wf_small (x := 0) (by omega))) (code_key h1 h2)
  obtain ⟨a, rfl, hz, -⟩ := plainElem_int_inv int_under hv
  simp only [Prod.mk.injEq] at hz
  rw [hr, (hF k h1 h2).1]
  cases hk : F k with
  | none =>
    rw [Maps.atKey_of_not_has (by rw [(hF k h1 h2).1, hk]; rfl)] at hz
    simp at hz
    simp [← hz.1]
  | some x =>
    rw [(hF k h1 h2).2 x hk] at hz
    simp at hz
    simp [← hz.1]
end Go.Proofs.YtoladolgmeanhaaGreat
