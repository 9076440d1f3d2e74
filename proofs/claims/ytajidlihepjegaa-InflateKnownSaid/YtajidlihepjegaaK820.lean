/- Several texts in one, each with its own head. -/
import Derived.Test.YtajidlihepjegaaK818
import Derived.Test.YtajidlihepjegaaK819
/- huff's check, and the document's own. -/
namespace Go.Proofs.Ytajidlihepjegaa
open Go.RowKit

/-- The length of a symbol. -/
def lq (ls : List Nat) (i : Nat) : Nat := ls.getD i 0
theorem lq_at {ls : List Nat} {k : Nat} (h : k < ls.length) : ls[k] = lq ls k := by
  unfold lq
  rw [List.getD_eq_getElem?_getD, List.getElem?_eq_getElem h]; rfl

theorem RowAt.byte {W : World} {p : Option Addr} {xs : List Nat} (h : RowAt enc8 1 W p xs) {k : Nat} (hk : k < xs.length) : ∃ b off, p = some ⟨b, off, none⟩ ∧ W.cell? ⟨b, off + k, none⟩ = some (u8v (lq xs k)) := by
  rcases h with ⟨-, rfl⟩ | ⟨b, off, rfl, -, h⟩
  · simp at hk
  · refine ⟨b, off, rfl, ?_⟩
    have := h k xs[k] (List.getElem?_eq_getElem hk) 0 _ rfl
    rw [lq_at hk] at this
    simpa using this

/-- What is wrong with lengths. -/
def chk (ls : List Nat) : Int :=
  if 320 < ls.length ∨ ∃ i, i < ls.length ∧ 15 < lq ls i then 1
  else if many ls.length (lq ls) = 0 ∨ room ls.length 15 (lq ls) = 32768 ∨ (many ls.length (lq ls) = 1 ∧ room ls.length 15 (lq ls) = 16384) then 0 else 60

theorem chk_long {ls : List Nat} (h : 320 < ls.length) : chk ls = 1 := by unfold chk; rw [if_pos (.inl h)]
theorem chk_wide {ls : List Nat} {i : Nat} (h : i < ls.length) (h2 : 15 < lq ls i) : chk ls = 1 := by unfold chk; rw [if_pos (.inr ⟨i, h, h2⟩)]
theorem chk_rest {ls : List Nat} (h : ls.length ≤ 320) (h2 : ∀ i, i < ls.length → lq ls i ≤ 15) : chk ls = if many ls.length (lq ls) = 0 ∨ room ls.length 15 (lq ls) = 32768 ∨ (many ls.length (lq ls) = 1 ∧ room ls.length 15 (lq ls) = 16384) then 0 else 60 := by
  unfold chk
  rw [if_neg]
  rintro (h3 | ⟨i, h3, h4⟩)
  · omega
  · have := h2 i h3; omega

theorem many_succ (f : Nat → Nat) (k : Nat) : many (k + 1) f = many k f + (if 0 < f k then 1 else 0) := rfl
theorem room_succ (f : Nat → Nat) (L k : Nat) : room (k + 1) L f = room k L f + (if 0 < f k then 2 ^ (L - f k) else 0) := rfl
theorem many_le (f : Nat → Nat) : ∀ k, many k f ≤ k
  | 0 => Nat.le_refl _
  | k + 1 => by
    have := many_le f k
    rw [many_succ]; split <;> omega
theorem room_le (f : Nat → Nat) (L : Nat) : ∀ k, room k L f ≤ k * 2 ^ L
  | 0 => by simp [room, sm]
  | k + 1 => by
    have h1 := room_le f L k
    have h2 : 2 ^ (L - f k) ≤ 2 ^ L := Nat.pow_le_pow_right (by decide) (by omega)
    rw [room_succ, Nat.add_mul]; split <;> omega

theorem shr_15 {n : Nat} (h : n ≤ 15) : (32768 : Int) / 2 ^ n = ((2 ^ (15 - n) : Nat) : Int) := by
  have e : (32768 : Nat) = 2 ^ (15 - n) * 2 ^ n := by rw [← Nat.pow_add, show 15 - n + n = 15 by omega]
  have : (32768 : Nat) / 2 ^ n = 2 ^ (15 - n) := by
    rw [e]; exact Nat.mul_div_cancel _ (pow_pos2 n)
  rw [← this]
  simp

set_option maxRecDepth 20000 in
set_option maxHeartbeats 1000000 in
theorem check_any (ls : List Nat) (v : Value) (w : World) (hv : Row enc8 1 w v ls) :
    Calls Try.prog 35 #[v] w fun e w' => e = .returned (.int .i64 (chk ls)) ∧ w' = w := by
  have hlen := hv.len
  obtain ⟨p, c, rfl, -, -, hrow⟩ := hv
  have Hrow := Lib.hid hrow
  obtain ⟨r, hr⟩ : ∃ r, chk ls = r := ⟨_, rfl⟩
  rw [hr]
  have Hr := Lib.hid hr
  clear hrow hr
  by_cases h320 : 320 < ls.length
  · have e0 : (320 : Int) < ls.length := by omega
    obtain rfl : r = 1 := by rw [← Hr.out]; exact chk_long h320
    go_enter Try.func35, Try.ntmps35
    go_wp2
    go_ret
    exact ⟨rfl, rfl⟩
  · have e0 : ¬ (320 : Int) < ls.length := by omega
    go_enter Try.func35, Try.ntmps35
    go_wp2
    go_loop [3, 4, 12] (fun cv sv kv => ∃ (k m s : Nat), cv = .int .i64 (m : Int) ∧ sv = .int .i64 (s : Int) ∧ kv = .int .i64 (k : Int) ∧ k ≤ ls.length ∧ m ≤ 320 ∧ s ≤ 320 * 32768 ∧ Hid (m = many k (lq ls) ∧ s = room k 15 (lq ls) ∧ ∀ i, i < k → lq ls i ≤ 15)) (fun _ _ kv => ls.length - (intOf kv).toNat)
    case atStart => exact ⟨0, 0, 0, rfl, rfl, rfl, Nat.zero_le _, by omega, by omega, Lib.hid ⟨rfl, rfl, fun i hi => by omega⟩⟩
    case round =>
      obtain ⟨k, m, s, rfl, rfl, rfl, hk, hm, hs, HI⟩ := hrel
      by_cases hlt : k < ls.length
      · obtain ⟨g, off, rfl, hcell⟩ := Hrow.out.byte hlt
        obtain ⟨x, hx⟩ : ∃ x, lq ls k = x := ⟨_, rfl⟩
        rw [hx] at hcell
        unfold u8v at hcell
        have k0 : (0 : Int) ≤ (k : Int) := by omega
        have k1 : (k : Int) < (ls.length : Int) := by omega
        have Hx := Lib.hid hx
        clear hx
        by_cases hx15 : 15 < x
        · obtain rfl : r = 1 := by rw [← Hr.out]; exact chk_wide hlt (by rw [Hx.out]; exact hx15)
          have e1 : decide (15 < x) = true := by simpa using hx15
          go_wp2
          go_ret
          exact ⟨rfl, rfl⟩
        · have e1 : decide (15 < x) = false := by simpa using hx15
          by_cases hx0 : 0 < x
          · have e2 : decide (0 < x) = true := by simpa using hx0
            have hsh := shr_15 (n := x) (by omega)
            obtain ⟨y, hy⟩ : ∃ y, 2 ^ (15 - x) = y := ⟨_, rfl⟩
            rw [hy] at hsh
            have HI1 : Hid (m + 1 = many (k + 1) (lq ls) ∧ s + y = room (k + 1) 15 (lq ls) ∧ ∀ i, i < k + 1 → lq ls i ≤ 15) := Lib.hid (by
              obtain ⟨a1, a2, a3⟩ := HI.out
              rw [many_succ, room_succ, Hx.out, if_pos hx0, if_pos hx0, ← a1, ← a2, hy]
              refine ⟨rfl, rfl, fun i hi => ?_⟩
              rcases Nat.lt_or_ge i k with h | h
              · exact a3 i h
              · obtain rfl : i = k := by omega
                rw [Hx.out]; omega)
            have hb1 : m + 1 ≤ 320 := by rw [HI1.out.1]; have := many_le (lq ls) (k + 1); omega
            have hb2 : s + y ≤ 320 * 32768 := by
              rw [HI1.out.2.1]
              have h5 := room_le (lq ls) 15 (k + 1)
              have h6 : (2 : Nat) ^ 15 = 32768 := rfl
              rw [h6] at h5
              exact Nat.le_trans h5 (Nat.mul_le_mul_right _ (by omega))
            clear hy
            go_wp2
            go_round
            case rel => exact ⟨k + 1, m + 1, s + y, by go_num, by go_num, by go_num, by omega, hb1, hb2, HI1⟩
            case measure => simp [intOf]; omega
          · have e2 : decide (0 < x) = false := by simpa using hx0
            have HI1 : Hid (m = many (k + 1) (lq ls) ∧ s = room (k + 1) 15 (lq ls) ∧ ∀ i, i < k + 1 → lq ls i ≤ 15) := Lib.hid (by
              obtain ⟨a1, a2, a3⟩ := HI.out
              rw [many_succ, room_succ, Hx.out, if_neg hx0, if_neg hx0, ← a1, ← a2]
              refine ⟨rfl, rfl, fun i hi => ?_⟩
              rcases Nat.lt_or_ge i k with h | h
              · exact a3 i h
              · obtain rfl : i = k := by omega
                rw [Hx.out]; omega)
            go_wp2
            go_round
            case rel => exact ⟨k + 1, m, s, rfl, rfl, by go_num, by omega, hm, hs, HI1⟩
            case measure => simp [intOf]; omega
      · obtain rfl : k = ls.length := by omega
        obtain ⟨a1, a2, a3⟩ := HI.out
        have hr := Hr.out
        rw [chk_rest (by omega) a3, ← a1, ← a2] at hr
        clear a1 a2 a3
        by_cases m0 : m = 0
        · obtain rfl : r = 0 := by rw [← hr, if_pos (.inl m0)]
          subst m0
          go_wp2
          go_ret
          exact ⟨rfl, rfl⟩
        · have q0 : ((m : Int) == 0) = false := by simp; omega
          by_cases s0 : s = 32768
          · obtain rfl : r = 0 := by rw [← hr, if_pos (.inr (.inl s0))]
            subst s0
            go_wp2
            go_ret
            exact ⟨rfl, rfl⟩
          · have q1 : ((s : Int) == 32768) = false := by simp; omega
            by_cases m1 : m = 1
            · subst m1
              by_cases s1 : s = 16384
              · obtain rfl : r = 0 := by rw [← hr, if_pos (.inr (.inr ⟨rfl, s1⟩))]
                subst s1
                go_wp2
                go_ret
                exact ⟨rfl, rfl⟩
              · have q2 : ((s : Int) == 16384) = false := by simp; omega
                obtain rfl : r = 60 := by
                  rw [← hr, if_neg]
                  omega
                go_wp2
                go_ret
                exact ⟨rfl, rfl⟩
            · have q2 : ((m : Int) == 1) = false := by simp; omega
              obtain rfl : r = 60 := by
                rw [← hr, if_neg]
                omega
              go_wp2
              go_ret
              exact ⟨rfl, rfl⟩

end Go.Proofs.Ytajidlihepjegaa

/- huff's turned. -/
namespace Go.Proofs.Ytajidlihepjegaa
open Go.RowKit

/-- So many bits of a number, the first one becomes the highest. -/
def trn : Nat → Nat → Nat → Nat
  | 0, acc, _ => acc
  | s + 1, acc, x => trn s (acc * 2 + x % 2) (x / 2)

theorem and_one_u32 (x : Nat) (h : x < 4294967296) : bits .and .u32 (x : Int) 1 = ((x % 2 : Nat) : Int) := by
  have := bits_mask .u32 32 (by decide) (fun m h0 h1 => by rw [IntKind.wrap_u32]; omega) 1 (by omega) x (by omega) (by omega)
  simpa using this

theorem or_low_u16 (a b : Nat) (ha : a < 32768) (hb : b < 2) : bits .or .u16 ((a : Int) * 2) (b : Int) = ((a * 2 + b : Nat) : Int) := by
  have e : ((a : Int) * 2) = ((a * 2 : Nat) : Int) := by simp
  rw [e, (bits_nat .u16 16 (by decide) (fun m h0 h1 => by rw [IntKind.wrap_u16]; omega) (a * 2) b (by omega) (by omega)).2]
  have h := Nat.two_pow_add_eq_or_of_lt (i := 1) (b := b) (by omega) a
  rw [Nat.mul_comm a 2]
  simp only [Nat.pow_one] at h
  rw [h]

set_option maxHeartbeats 1000000 in
theorem turned_any (x s : Nat) (w : World) (hx : x < 4294967296) (hs : s ≤ 15) :
    Calls Try.prog 50 #[.int .u32 (x : Int), .int .u8 (s : Int)] w fun e w' => e = .returned (.int .u16 ((trn s 0 x : Nat) : Int)) ∧ w' = w := by
  obtain ⟨r, hr⟩ : ∃ r, trn s 0 x = r := ⟨_, rfl⟩
  rw [hr]
  have Hr := Lib.hid hr
  clear hr
  go_enter Try.func50, Try.ntmps50
  go_wp2
  go_loop [0, 5, 7] (fun xv av kv => ∃ (k y a : Nat), xv = .int .u32 (y : Int) ∧ av = .int .u16 (a : Int) ∧ kv = .int .u8 (k : Int) ∧ k ≤ s ∧ y < 4294967296 ∧ Hid (a < 2 ^ k ∧ trn (s - k) a y = r)) (fun _ _ kv => s - (intOf kv).toNat)
  case atStart => exact ⟨0, x, 0, rfl, rfl, rfl, Nat.zero_le _, hx, Lib.hid ⟨by simp, Hr.out⟩⟩
  case round =>
    obtain ⟨k, y, a, rfl, rfl, rfl, hk, hy, HI⟩ := hrel
    by_cases hlt : k < s
    · have d0 : decide (k < s) = true := by simpa using hlt
      have ha : a < 32768 := by
        have h1 := HI.out.1
        have h2 : 2 ^ k ≤ 2 ^ 14 := Nat.pow_le_pow_right (by decide) (by omega)
        have h3 : (2 : Nat) ^ 14 = 16384 := rfl
        omega
      have hand := and_one_u32 y hy
      obtain ⟨b, hb⟩ : ∃ b, y % 2 = b := ⟨_, rfl⟩
      rw [hb] at hand
      have hb2 : b < 2 := by omega
      have hor := or_low_u16 a b ha hb2
      obtain ⟨c, hc⟩ : ∃ c, a * 2 + b = c := ⟨_, rfl⟩
      rw [hc] at hor
      have HI1 : Hid (c < 2 ^ (k + 1) ∧ trn (s - (k + 1)) c (y / 2) = r) := Lib.hid (by
        obtain ⟨h1, h2⟩ := HI.out
        rw [show s - k = (s - (k + 1)) + 1 by omega, trn, hb, hc] at h2
        refine ⟨?_, h2⟩
        rw [Nat.pow_succ]; omega)
      have hc16 : c < 65536 := by omega
      clear hb hc
      go_wp2
      go_round
      case rel => exact ⟨k + 1, y / 2, c, by go_num, by go_num, by go_num, by omega, by omega, HI1⟩
      case measure => simp [intOf]; omega
    · obtain rfl : k = s := by omega
      have d0 : decide (k < k) = false := by simp
      have h2 := HI.out.2
      rw [Nat.sub_self, trn] at h2
      subst h2
      go_wp2
      go_ret
      exact ⟨rfl, rfl⟩

end Go.Proofs.Ytajidlihepjegaa
