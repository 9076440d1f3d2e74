/- lz's search: next, rarest; size, mayBe. -/
import Derived.Test.YtngiiacibbgiiaaLzB
namespace Go.Proofs.Ytngiiacibbgiiaa
open Go.RowKit

/-- The next distance. -/
def nextN (hop dist : Nat) : Nat := if hop = 0 ∨ 32768 < dist + hop then 0 else dist + hop

set_option maxRecDepth 20000 in
set_option maxHeartbeats 1000000 in
theorem srNext_any (A : List Nat) (vb va : Value) (fr dist : Nat) (w : World) (hva : Row encH 1 w va A) (hvb : ∃ p n c, vb = .slice p n c) (h1 : dist ≤ fr) (h2 : fr - dist < A.length) (hA : fb A (fr - dist) ≤ 32768) (hd : dist ≤ 32768) (hfr : fr ≤ 1048576) :
    Calls Try.prog 23 #[.agg #[vb, va], .int .i64 (fr : Int), .int .i64 (dist : Int)] w fun e w' => e = .returned (.int .i64 ((nextN (fb A (fr - dist)) dist : Nat) : Int)) ∧ Below w.heap.size w w' := by
  obtain ⟨p, c, rfl, -, -, hrow⟩ := hva
  obtain ⟨pb, nb, cb, rfl⟩ := hvb
  obtain ⟨W, hW⟩ : ∃ W, w.alloc (.cells #[.slice pb nb cb, .slice p A.length c] 41) = W := ⟨_, rfl⟩
  have hb0 : Below w.heap.size w W := by rw [← hW]; exact Below.al1 w _
  have hc0 : W.cell? ⟨w.heap.size, 1, none⟩ = some (.slice p A.length c) := by rw [← hW]; exact cell_at rfl rfl
  obtain ⟨t, ht⟩ : ∃ t, fr - dist = t := ⟨_, rfl⟩
  rw [ht] at h2 hA ⊢
  obtain ⟨g, off, rfl, hx⟩ := hrow.half h2
  have hx := cell_later hb0 hx
  obtain ⟨x, hxx⟩ : ∃ x, fb A t = x := ⟨_, rfl⟩
  rw [hxx] at hx hA ⊢
  have et : (fr : Int) - (dist : Int) = (t : Int) := by omega
  have t0 : (0 : Int) ≤ (t : Int) := by omega
  have t1 : (t : Int) < (A.length : Int) := by omega
  have Hb0 := Lib.hid hb0
  obtain ⟨z, hzz⟩ : ∃ z, dist + x = z := ⟨_, rfl⟩
  have ed : (dist : Int) + (x : Int) = (z : Int) := by omega
  have Hzz := Lib.hid hzz
  clear hb0 hrow hxx ht hzz
  subst hW
  by_cases hz : x = 0
  · have e0 : ((x : Int) == 0) = true := by simp; omega
    have hn : nextN x dist = 0 := by unfold nextN; rw [if_pos (.inl hz)]
    rw [hn]
    clear hn hz
    go_enter Try.func23, Try.ntmps23
    go_wp2
    go_ret
    exact ⟨rfl, Hb0.out⟩
  · have e0 : ((x : Int) == 0) = false := by simp; omega
    by_cases hf : 32768 < z
    · have e1 : decide ((z : Int) > 32768) = true := by simp; omega
      have hn : nextN x dist = 0 := by unfold nextN; rw [Hzz.out, if_pos (.inr hf)]
      rw [hn]
      clear hn hz
      go_enter Try.func23, Try.ntmps23
      go_wp2
      go_ret
      exact ⟨rfl, Hb0.out⟩
    · have e1 : decide ((z : Int) > 32768) = false := by simp; omega
      have hn : nextN x dist = z := by unfold nextN; rw [Hzz.out, if_neg (by omega)]
      rw [hn]
      clear hn hz
      go_enter Try.func23, Try.ntmps23
      go_wp2
      go_ret
      exact ⟨rfl, Hb0.out⟩

set_option maxRecDepth 20000 in
set_option maxHeartbeats 1000000 in
theorem srRarest_any (A : List Nat) (vb va : Value) (fr tt : Nat) (w : World) (hva : Row encH 1 w va A) (hvb : ∃ p n c, vb = .slice p n c) (h1 : fr ≤ tt) (h2 : tt < A.length) (hto : A.length ≤ 1048576) :
    Calls Try.prog 24 #[.agg #[vb, va], .int .i64 (fr : Int), .int .i64 (tt : Int)] w fun e w' => ∃ r : Nat, e = .returned (.int .i64 (r : Int)) ∧ fr ≤ r ∧ r ≤ tt ∧ Below w.heap.size w w' := by
  obtain ⟨p, c, rfl, -, -, hrow⟩ := hva
  obtain ⟨pb, nb, cb, rfl⟩ := hvb
  obtain ⟨W, hW⟩ : ∃ W, w.alloc (.cells #[.slice pb nb cb, .slice p A.length c] 41) = W := ⟨_, rfl⟩
  have hb0 : Below w.heap.size w W := by rw [← hW]; exact Below.al1 w _
  have hc0 : W.cell? ⟨w.heap.size, 1, none⟩ = some (.slice p A.length c) := by rw [← hW]; exact cell_at rfl rfl
  have Hb0 := Lib.hid hb0
  have Hc0 := Lib.hid hc0
  have HW := Lib.hid hW
  have Hrow := Lib.hid hrow
  clear hb0 hc0 hW hrow
  go_enter Try.func24, Try.ntmps24
  go_wp2
  rw [HW.out]
  go_loopw [7, 8] (fun rv iv wr => ∃ r i : Nat, rv = .int .i64 (r : Int) ∧ iv = .int .i64 (i : Int) ∧ fr ≤ r ∧ r ≤ tt ∧ fr ≤ i ∧ i ≤ tt + 1 ∧ Hid (Below W.heap.size W wr)) (fun _ iv _ => tt + 1 - (intOf iv).toNat)
  case atStart => exact ⟨fr, fr, rfl, rfl, Nat.le_refl _, h1, Nat.le_refl _, by omega, Lib.hid (Below.refl _ _)⟩
  case round =>
    obtain ⟨r, i, rfl, rfl, hr1, hr2, hi1, hi2, HB⟩ := hrel
    have c0 := cell_later HB.out Hc0.out
    by_cases hlt : i ≤ tt
    · have d0 : decide ((i : Int) ≤ (tt : Int)) = true := by simp; omega
      have hBw := Below.thn Hb0.out HB.out
      obtain ⟨g, off, rfl, hx⟩ := Hrow.out.half (k := i) (by omega)
      obtain ⟨g', off', e, hy⟩ := Hrow.out.half (k := r) (by omega)
      cases e
      have hx := cell_later hBw hx
      have hy := cell_later hBw hy
      have s0 : (0 : Int) ≤ (i : Int) := by omega
      have s1 : (i : Int) < (A.length : Int) := by omega
      have t0 : (0 : Int) ≤ (r : Int) := by omega
      have t1 : (r : Int) < (A.length : Int) := by omega
      generalize fb A i = x at *
      generalize fb A r = y at *
      clear hBw
      by_cases hz : x = 0
      · have e0 : ((x : Int) == 0) = true := by simp; omega
        clear hz
        go_wp2
        go_ret
        exact ⟨i, rfl, hi1, hlt, Below.thn Hb0.out HB.out⟩
      · have e0 : ((x : Int) == 0) = false := by simp; omega
        by_cases hxy : y < x
        · have e1 : decide ((x : Int) > (y : Int)) = true := by simp; omega
          go_wp2_with fail
          go_quiet (fail)
          have hdr : Below wr.heap.size wr (wr.drewN nq) := Below.drewN' (Below.refl _ _) nq
          have HB2 := Lib.hid (Below.thn HB.out hdr)
          generalize wr.drewN nq = W2 at *
          clear hdr c0 hx hy
          go_wp2
          go_roundw
          case rel => exact ⟨i, i + 1, rfl, by go_num, hi1, hlt, by omega, by omega, HB2⟩
          case measure => simp [intOf]; omega
        · have e1 : decide ((x : Int) > (y : Int)) = false := by simp; omega
          go_wp2_with fail
          go_quiet (fail)
          have hdr : Below wr.heap.size wr (wr.drewN nq) := Below.drewN' (Below.refl _ _) nq
          have HB2 := Lib.hid (Below.thn HB.out hdr)
          generalize wr.drewN nq = W2 at *
          clear hdr c0 hx hy
          go_wp2
          go_roundw
          case rel => exact ⟨r, i + 1, rfl, by go_num, hr1, hr2, by omega, by omega, HB2⟩
          case measure => simp [intOf]; omega
    · have d0 : decide ((i : Int) ≤ (tt : Int)) = false := by simp; omega
      go_wp2
      go_ret
      exact ⟨r, rfl, hr1, hr2, Below.thn Hb0.out HB.out⟩

/-- A token as a value, and as cells. -/
def tkV (t : Tk) : Value := .agg #[.int .u8 (t.b : Int), .int .i64 t.n, .int .i64 t.d]
def encT (t : Tk) : List Value := [.int .u8 (t.b : Int), .int .i64 t.n, .int .i64 t.d]
theorem encT_len (t : Tk) : (encT t).length = 3 := rfl
theorem encT_one (l : List Tk) : ∀ u ∈ l.flatMap encT, u.oneCell' = true := by
  intro u hu
  obtain ⟨t, -, ht⟩ := List.mem_flatMap.1 hu
  simp [encT] at ht
  rcases ht with rfl | rfl | rfl <;> rfl

theorem size_any (t : Tk) (w : World) (hn : t.n ≤ 1000) :
    Makes Try.prog 17 #[tkV t] w (.int .i64 ((t.size : Nat) : Int)) := by
  unfold Makes
  obtain ⟨b, n, d⟩ := t
  unfold tkV
  simp only at hn ⊢
  have hs : ((Tk.size ⟨b, n, d⟩ : Nat) : Int) = max n 1 := by unfold Tk.size; simp only; omega
  rw [hs]
  clear hs
  go_enter Try.func17, Try.ntmps17
  go_wp2
  all_goals
    go_ret
    exact ⟨ret_int (by omega), Below.al1 w _⟩

set_option maxHeartbeats 1000000 in
theorem mayBe_any (t : Tk) (w : World) :
    Makes Try.prog 19 #[tkV t] w (.bool t.okB) := by
  unfold Makes
  obtain ⟨b, n, d⟩ := t
  unfold tkV
  obtain ⟨r, hr⟩ : ∃ r, Tk.okB ⟨b, n, d⟩ = r := ⟨_, rfl⟩
  simp only [hr]
  have Hr := Lib.hid hr
  clear hr
  by_cases h0 : n = 0
  · have e0 : (n == 0) = true := by simp; omega
    have hr : r = (d == 0) := by
      rw [← Hr.out]; unfold Tk.okB; simp only [if_pos h0]; rw [Bool.eq_iff_iff]; simp
    rw [hr]
    clear h0 hr
    go_enter Try.func19, Try.ntmps19
    go_wp2
    go_ret
    exact ⟨rfl, Below.al1 w _⟩
  have e0 : (n == 0) = false := by simp; omega
  have hr0 : r = decide (3 ≤ n ∧ n ≤ 258 ∧ 1 ≤ d ∧ d ≤ 32768 ∧ b = 0) := by
    rw [← Hr.out]; unfold Tk.okB; simp only [if_neg h0]
  have Hr0 := Lib.hid hr0
  clear hr0 Hr h0
  by_cases h1 : 3 ≤ n
  · have d1 : decide (3 ≤ n) = true := by simp; omega
    by_cases h2 : n ≤ 258
    · have d2 : decide (n ≤ 258) = true := by simp; omega
      by_cases h3 : 1 ≤ d
      · have d3 : decide (1 ≤ d) = true := by simp; omega
        by_cases h4 : d ≤ 32768
        · have d4 : decide (d ≤ 32768) = true := by simp; omega
          have hr : r = ((b : Int) == 0) := by
            rw [Hr0.out, Bool.eq_iff_iff]; simp; omega
          rw [hr]
          clear hr
          go_enter Try.func19, Try.ntmps19
          go_wp2
          go_ret
          exact ⟨rfl, Below.al1 w _⟩
        · have d4 : decide (d ≤ 32768) = false := by simp; omega
          obtain rfl : r = false := by rw [Hr0.out]; simp; omega
          go_enter Try.func19, Try.ntmps19
          go_wp2
          go_ret
          exact ⟨rfl, Below.al1 w _⟩
      · have d3 : decide (1 ≤ d) = false := by simp; omega
        obtain rfl : r = false := by rw [Hr0.out]; simp; omega
        go_enter Try.func19, Try.ntmps19
        go_wp2
        go_ret
        exact ⟨rfl, Below.al1 w _⟩
    · have d2 : decide (n ≤ 258) = false := by simp; omega
      obtain rfl : r = false := by rw [Hr0.out]; simp; omega
      go_enter Try.func19, Try.ntmps19
      go_wp2
      go_ret
      exact ⟨rfl, Below.al1 w _⟩
  · have d1 : decide (3 ≤ n) = false := by simp; omega
    obtain rfl : r = false := by rw [Hr0.out]; simp; omega
    go_enter Try.func19, Try.ntmps19
    go_wp2
    go_ret
    exact ⟨rfl, Below.al1 w _⟩

end Go.Proofs.Ytngiiacibbgiiaa
