/- pixbuf's turn, whole, blank, sized, isPicture. -/
import Derived.Test.YtiamooijflaggaaPixA
import Derived.Laws.BitsLemmas
namespace Go.Proofs.Ytiamooijflaggaa
open Go.RowKit

/-- A number cut to 24 bits. -/
def cut24 (v : Int) : Int := v % 16777216

theorem wraps_u32_32 (n : Int) (h₀ : 0 ≤ n) (h₁ : n < 2 ^ 32) : IntKind.u32.wrap n = n := by rw [IntKind.wrap_u32]; omega

theorem mask24 (v : Int) (hv : 0 ≤ v ∧ v < 4294967296) : bits .and .u32 v 16777215 = cut24 v := by
  have h := bits_mask .u32 32 (by decide) wraps_u32_32 24 (by decide) v (by omega) (by omega)
  have e : ((2 : Int) ^ 24 - 1) = 16777215 := by decide
  have e2 : ((2 : Int) ^ 24) = 16777216 := by decide
  rw [e, e2] at h
  exact h

set_option maxHeartbeats 400000 in
theorem layMask_any (v : Int) (w : World) (hv : 0 ≤ v ∧ v < 4294967296) : Calls Try.prog 120 #[.int .u32 v] w fun e w' => e = .returned (.int .u32 (cut24 v)) ∧ w' = w := by
  go_enter Try.func120, Try.ntmps120
  go_wp2
  go_ret
  exact ⟨by rw [← mask24 v hv]; rfl, rfl⟩

set_option maxHeartbeats 400000 in
theorem whole_any (wd ht : Int) (s : Value) (w : World) : Makes Try.prog 84 #[IV wd ht s] w (RV ⟨0, 0, wd, ht⟩) := by
  unfold Makes
  go_enter Try.func84, Try.ntmps84
  go_wp2
  exact bodyPost_ret (v := RV ⟨0, 0, wd, ht⟩) (results_rc Try.results84 rfl (Lies.new (n := w.heap.size + 1) (r := ⟨0, 0, wd, ht⟩) (w := w.alloc (.cells #[.int .i64 wd, .int .i64 ht, s] 39)) (by simp))) rfl ⟨rfl, Below.al2 _ _ _⟩

def sizedB (wd ht : Int) : Bool := decide ((1 ≤ wd ∧ wd ≤ 256) ∧ (1 ≤ ht ∧ ht ≤ 256))

set_option maxHeartbeats 400000 in
theorem sized_any (wd ht : Int) (w : World) : Calls Try.prog 93 #[.int .i64 wd, .int .i64 ht] w fun e w' => e = .returned (.bool (sizedB wd ht)) ∧ w' = w := by
  obtain ⟨B, hB⟩ : ∃ B, sizedB wd ht = B := ⟨_, rfl⟩
  have fin : B = true ↔ ((1 ≤ wd ∧ wd ≤ 256) ∧ (1 ≤ ht ∧ ht ≤ 256)) := by rw [← hB]; simp [sizedB]
  rw [hB]
  go_enter Try.func93, Try.ntmps93
  by_cases h1 : 1 ≤ wd
  · have d1 : decide (1 ≤ wd) = true := by simpa using h1
    by_cases h2 : wd ≤ 256
    · have d2 : decide (wd ≤ 256) = true := by simpa using h2
      by_cases h3 : 1 ≤ ht
      · have d3 : decide (1 ≤ ht) = true := by simpa using h3
        by_cases h4 : ht ≤ 256
        · have d4 : decide (ht ≤ 256) = true := by simpa using h4
          obtain rfl : B = true := fin.2 ⟨⟨h1, h2⟩, h3, h4⟩
          clear fin hB
          go_wp2
          go_ret
          exact ⟨rfl, rfl⟩
        · have d4 : decide (ht ≤ 256) = false := by simpa using h4
          obtain rfl : B = false := by cases B; rfl; exact absurd (fin.1 rfl).2.2 h4
          clear fin hB
          go_wp2
          go_ret
          exact ⟨rfl, rfl⟩
      · have d3 : decide (1 ≤ ht) = false := by simpa using h3
        obtain rfl : B = false := by cases B; rfl; exact absurd (fin.1 rfl).2.1 h3
        clear fin hB
        go_wp2
        go_ret
        exact ⟨rfl, rfl⟩
    · have d2 : decide (wd ≤ 256) = false := by simpa using h2
      obtain rfl : B = false := by cases B; rfl; exact absurd (fin.1 rfl).1.2 h2
      clear fin hB
      go_wp2
      go_ret
      exact ⟨rfl, rfl⟩
  · have d1 : decide (1 ≤ wd) = false := by simpa using h1
    obtain rfl : B = false := by cases B; rfl; exact absurd (fin.1 rfl).1.1 h1
    clear fin hB
    go_wp2
    go_ret
    exact ⟨rfl, rfl⟩

/-- Is it a picture? -/
def pictB (wd ht : Int) (n : Nat) : Bool := sizedB wd ht && decide ((n : Int) = wd * ht)

theorem sizedB_iff {wd ht : Int} : sizedB wd ht = true ↔ ((1 ≤ wd ∧ wd ≤ 256) ∧ (1 ≤ ht ∧ ht ≤ 256)) := by simp [sizedB]

set_option maxHeartbeats 1000000 in
theorem isPicture_any (wd ht : Int) (p : Option Addr) (n c : Nat) (w : World) : Makes Try.prog 82 #[IV wd ht (.slice p n c)] w (.bool (pictB wd ht n)) := by
  unfold Makes
  obtain ⟨B, hB⟩ : ∃ B, pictB wd ht n = B := ⟨_, rfl⟩
  rw [hB]
  go_enter Try.func82, Try.ntmps82
  go_wp2_with fail
  refine Calls.mono (sized_any _ _ _) ?_
  rintro e w1 ⟨rfl, rfl⟩
  cases hs : sizedB wd ht
  · obtain rfl : B = false := by rw [← hB, pictB, hs]; rfl
    have Hs := Lib.hid hs
    clear hs hB
    go_wp2
    go_ret
    exact ⟨rfl, Below.al1 _ _⟩
  · obtain ⟨⟨s1, s2⟩, s3, s4⟩ := sizedB_iff.1 hs
    have hm0 : 0 ≤ wd * ht := Int.mul_nonneg (by omega) (by omega)
    have hm1 : wd * ht ≤ 65536 := Int.le_trans (Int.mul_le_mul s2 s4 (by omega) (by omega)) (by decide)
    obtain ⟨q, hq⟩ : ∃ q, wd * ht = q := ⟨_, rfl⟩
    rw [hq] at hm0 hm1
    have hw : IntKind.i64.wrap (wd * ht) = q := by rw [hq]; exact IntWalk.i64_in _ (by omega)
    by_cases hz : (n : Int) = q
    · obtain rfl : B = true := by rw [← hB, pictB, hs, hq]; simpa using hz
      have hz' : ((n : Int) == q) = true := by simpa using hz
      have Hs := Lib.hid hs
      clear hs hB hq s1 s2 s3 s4 hz
      go_wp2
      go_ret
      exact ⟨rfl, Below.al1 _ _⟩
    · obtain rfl : B = false := by rw [← hB, pictB, hs, hq]; simpa using hz
      have hz' : ((n : Int) == q) = false := by simpa using hz
      have Hs := Lib.hid hs
      clear hs hB hq s1 s2 s3 s4 hz
      go_wp2
      go_ret
      exact ⟨rfl, Below.al1 _ _⟩

set_option maxHeartbeats 1000000 in
theorem turn0_any (gm : Nat) (f : Int → Int) (g o n cap : Nat) (L : List Int) (w : World) (hL : Pix w g L) (hfit : o + n ≤ L.length) (hlen : L.length ≤ 1048576) (hF : Enters Try.prog gm) (hg : ∀ v ∈ L, ∀ w1, Calls Try.prog gm #[.int .u32 v] w1 fun e w2 => e = .returned (.int .u32 (f v)) ∧ w2 = w1) :
    Calls Try.prog 87 #[.slice (some ⟨g, o, none⟩) n cap, .func (.func gm) #[] #[]] w fun e w' => e = .returned (.tuple #[]) ∧ Pix w' g (mapAt f o n L) ∧ Turns (fun b => b = g) w w' := by
  unfold Enters at hF
  have Hg := Lib.hid hg
  clear hg
  go_enter Try.func87, Try.ntmps87
  go_wp2
  go_loopw [8] (fun i wr => ∃ k : Nat, k ≤ n ∧ i = .int .i64 k ∧ Pix wr g (mapAt f o k L) ∧ Turns (fun b => b = g) w wr) (fun i _ => n - (intOf i).toNat)
  case atStart => exact ⟨0, by omega, rfl, by rw [mapAt_zero]; exact hL, Turns.refl _ _⟩
  case round =>
    obtain ⟨k, hk, rfl, hP, ht⟩ := hrel
    by_cases hlt : k < n
    · have hi : o + k < L.length := by omega
      have hget : (mapAt f o k L)[o + k]'(by rw [mapAt_len]; exact hi) = L[o + k] := by rw [mapAt_get _ _ _ _ _ hi, if_neg (by omega)]
      have c0 := hP.cell (i := o + k) (by rw [mapAt_len]; exact hi)
      rw [hget] at c0
      have f0 := hP.free (o + k)
      have Hn := Lib.hid (show Pix (wr.setCell ⟨g, o + k, none⟩ (.int .u32 (f L[o + k]))) g (mapAt f o (k + 1) L) from by
        rw [← mapAt_succ _ _ _ _ hi]; exact hP.set _ _)
      have Ht := Lib.hid (show Turns (fun b => b = g) w (wr.setCell ⟨g, o + k, none⟩ (.int .u32 (f L[o + k]))) from ht.set (p := ⟨g, o + k, none⟩) rfl _)
      have Hc := Lib.hid (Hg.out L[o + k] (List.getElem_mem hi))
      clear hget hP ht hL
      generalize L[o + k] = v at *
      go_wp2_with fail
      refine Calls.mono (Hc.out _) ?_
      rintro e w1 ⟨rfl, rfl⟩
      go_wp2
      go_roundw
      case rel => exact ⟨k + 1, by omega, by go_num, Hn.out, Ht.out⟩
      case measure => simp [intOf]; omega
    · obtain rfl : k = n := by omega
      go_wp2
      go_end0
      exact ⟨rfl, hP, ht⟩

end Go.Proofs.Ytiamooijflaggaa
