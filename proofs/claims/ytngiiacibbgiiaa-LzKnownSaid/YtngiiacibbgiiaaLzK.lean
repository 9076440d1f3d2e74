/- The document's match and Match. -/
import Derived.Test.YtngiiacibbgiiaaLzJ
namespace Go.Proofs.Ytngiiacibbgiiaa
open Go.RowKit

set_option maxRecDepth 20000 in
set_option maxHeartbeats 4000000 in
theorem refRun_any (l : List Nat) (vb : Value) (a d : Nat) (w : World) (hv : Row enc8 1 w vb l) (h1 : 1 ≤ d) (hd : d ≤ a) (ha : a ≤ l.length) (hl : l.length ≤ 1048576) :
    Calls Try.prog 18 #[vb, .int .i64 (a : Int), .int .i64 (d : Int)] w fun e w' => ∃ n : Nat, e = .returned (.int .i64 (n : Int)) ∧ IsRun (fb l) a d (mo l.length a) n ∧ Below w.heap.size w w' := by
  obtain ⟨p, c, rfl, -, -, hrow⟩ := hv
  have Hrow := Lib.hid hrow
  obtain ⟨m, hm⟩ : ∃ m, mo l.length a = m := ⟨_, rfl⟩
  have Hm := Lib.hid (show m = min 258 (l.length - a) by rw [← hm]; rfl)
  rw [hm]
  clear hrow hm
  go_enter Try.func18, Try.ntmps18
  go_wp2
  go_loopw [7] (fun nv wr => ∃ n : Nat, nv = .int .i64 (n : Int) ∧ n ≤ m ∧ Hid (∀ j, j < n → fb l (a + j) = fb l (a + j - d)) ∧ Hid (Below w.heap.size w wr)) (fun nv _ => m - (intOf nv).toNat)
  case atStart => exact ⟨0, rfl, Nat.zero_le _, Lib.hid fun j h => by omega, Lib.hid (Below.refl _ _)⟩
  case round =>
    obtain ⟨n, rfl, hn, HN, HB⟩ := hrel
    obtain ⟨s, hs⟩ : ∃ s, a + n = s := ⟨_, rfl⟩
    have es : (a : Int) + (n : Int) = (s : Int) := by omega
    have hn2 : n ≤ 258 ∧ s ≤ l.length := by have := Hm.out; omega
    have hn3 := hn2.1
    by_cases hlt : n < m
    · have hn4 : n < 258 ∧ s < l.length := by have := Hm.out; omega
      have d0 : decide ((n : Int) < 258) = true := by simp; omega
      have d1 : decide (s < l.length) = true := by simp; omega
      obtain ⟨t, ht⟩ : ∃ t, s - d = t := ⟨_, rfl⟩
      obtain ⟨g, off, rfl, hx⟩ := Hrow.out.byteF (k := s) (by omega)
      obtain ⟨g', off', e, hy⟩ := Hrow.out.byteF (k := t) (by omega)
      cases e
      have hx := cell_later HB.out hx
      have hy := cell_later HB.out hy
      have et : (s : Int) - (d : Int) = (t : Int) := by omega
      have s0 : (0 : Int) ≤ (s : Int) := by omega
      have s1 : (s : Int) < (l.length : Int) := by omega
      have s2 : s < l.length := by omega
      have t0 : (0 : Int) ≤ (t : Int) := by omega
      have t1 : (t : Int) < (l.length : Int) := by omega
      have Hs := Lib.hid (And.intro hs ht)
      obtain ⟨x, hxx⟩ : ∃ x, fb l s = x := ⟨_, rfl⟩
      obtain ⟨y, hyy⟩ : ∃ y, fb l t = y := ⟨_, rfl⟩
      rw [hxx] at hx
      rw [hyy] at hy
      have Hxy := Lib.hid (And.intro hxx hyy)
      clear hs ht hxx hyy hn2 hn4
      by_cases hxy : x = y
      · subst hxy
        have e0 : ((x : Int) == (x : Int)) = true := by simp
        go_wp2_with fail
        go_quiet (fail)
        have hdr : Below wr.heap.size wr (wr.drewN nq) := Below.drewN' (Below.refl _ _) nq
        have HB2 := Lib.hid (Below.thn HB.out hdr)
        generalize wr.drewN nq = W2 at *
        clear hdr hx hy
        go_wp2
        go_roundw
        case rel => exact ⟨n + 1, by go_num, by omega, Lib.hid fun j hj => by
          rcases Nat.lt_or_ge j n with h | h
          · exact HN.out j h
          · obtain rfl : j = n := by omega
            rw [Hs.out.1, Hs.out.2, Hxy.out.1, Hxy.out.2], HB2⟩
        case measure => simp [intOf]; omega
      · have e0 : ((x : Int) == (y : Int)) = false := by simp; omega
        go_wp2_with fail
        go_quiet (fail)
        have hdr : Below wr.heap.size wr (wr.drewN nq) := Below.drewN' (Below.refl _ _) nq
        have HB2 := Lib.hid (Below.thn HB.out hdr)
        generalize wr.drewN nq = W2 at *
        clear hdr hx hy
        go_wp2
        go_ret
        exact ⟨n, rfl, ⟨hn, HN.out, fun _ => by rw [Hs.out.1, Hs.out.2, Hxy.out.1, Hxy.out.2]; exact hxy⟩, HB2.out⟩
    · obtain rfl : n = m := by omega
      clear hs
      by_cases h258 : n < 258
      · have hsl : ¬ s < l.length := by have := Hm.out; omega
        have d0 : decide ((n : Int) < 258) = true := by simp; omega
        have d1 : decide (s < l.length) = false := by simp; omega
        go_wp2_with fail
        go_quiet (fail)
        have hdr : Below wr.heap.size wr (wr.drewN nq) := Below.drewN' (Below.refl _ _) nq
        have HB2 := Lib.hid (Below.thn HB.out hdr)
        generalize wr.drewN nq = W2 at *
        clear hdr
        go_wp2
        go_ret
        exact ⟨n, rfl, ⟨Nat.le_refl _, HN.out, fun h => by omega⟩, HB2.out⟩
      · have d0 : decide ((n : Int) < 258) = false := by simp; omega
        go_wp2_with fail
        go_quiet (fail)
        have hdr : Below wr.heap.size wr (wr.drewN nq) := Below.drewN' (Below.refl _ _) nq
        have HB2 := Lib.hid (Below.thn HB.out hdr)
        generalize wr.drewN nq = W2 at *
        clear hdr
        go_wp2
        go_ret
        exact ⟨n, rfl, ⟨Nat.le_refl _, HN.out, fun h => by omega⟩, HB2.out⟩

end Go.Proofs.Ytngiiacibbgiiaa
