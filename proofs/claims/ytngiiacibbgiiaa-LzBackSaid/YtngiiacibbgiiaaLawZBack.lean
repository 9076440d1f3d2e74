/- The walk of the statement LzBack. -/
import Derived.Test.YtngiiacibbgiiaaLzM
namespace Go.Proofs.Ytngiiacibbgiiaa
open Go.RowKit

set_option maxRecDepth 20000 in
set_option maxHeartbeats 8000000 in
theorem zback_any (v : Value) (l : List Nat) (w : World) (hv : Rw8 w v l) (hby : ∀ b ∈ l, b < 256) :
    Makes Try.prog 5 #[v] w (.bool true) := by
  unfold Makes
  have Hv := Lib.hid hv.row
  obtain ⟨p, c, rfl, -, -, -⟩ := hv.row
  clear hv
  go_enter Try.func5, Try.ntmps5
  by_cases hl : 5000 < l.length
  · have d0 : decide ((l.length : Int) > 5000) = true := by simp; omega
    go_wp2
    go_ret
    exact ⟨rfl, Below.refl _ _⟩
  have d0 : decide ((l.length : Int) > 5000) = false := by simp; omega
  go_wp2_with fail
  refine Calls.mono (match_any l _ w Hv.out hby (by omega)) ?_
  rintro e w2 ⟨v2, ts, rfl, ho2, ht2, hb2⟩
  have Ho2 := Lib.hid ho2.row
  have Ht2 := Lib.hid ht2
  have Hb2 := Lib.hid hb2
  have hle := ht2.le.2
  have htell := ht2.tell (by omega)
  obtain ⟨pp, cc, rfl⟩ := owns_slice ho2
  clear ho2 ht2 hb2
  go_wp2_with fail
  have hca := expand_any ts _ w2 Ho2.out (by omega)
  rw [htell] at hca
  refine Calls.mono hca ?_
  rintro e w3 ⟨v3, rfl, ho3, hb3⟩
  have Hb3 := Lib.hid (Below.thn Hb2.out hb3)
  have Hx := Lib.hid (Ho2.out.below hb3)
  have hs1 := str_row (Row.own8 ho3)
  have hs2 := str_row (Hv.out.below Hb3.out)
  obtain ⟨pq, cq, rfl⟩ := owns_slice ho3
  simp only
  generalize strN l = S at hs1 hs2
  obtain ⟨q, hq⟩ : ∃ q, ts.length = q := ⟨_, rfl⟩
  obtain ⟨N, hN⟩ : ∃ N, l.length = N := ⟨_, rfl⟩
  rw [hN] at Ht2
  have hqN : q ≤ N := by omega
  have hNb : N ≤ 5000 := by omega
  have d1 : decide (q > N) = false := by simp; omega
  have Hq := Lib.hid hq
  simp only [hN] at hs1 hs2
  rw [hN, hq]
  clear ho3 hb3 hca hq htell hle d0 hl hN
  have hmx := max_lz
  go_wp2
  generalize w3 = W3 at *
  clear hs1 hs2 d1
  go_loopw [6, 7] (fun nv iv wr => ∃ i a : Nat, nv = .int .i64 (a : Int) ∧ iv = .int .i64 (i : Int) ∧ i ≤ q ∧ a ≤ N ∧ Hid (ToksTo (fb l) N a (ts.take i)) ∧ Hid (Below W3.heap.size W3 wr)) (fun _ iv _ => q - (intOf iv).toNat)
  case atStart => exact ⟨0, 0, rfl, rfl, Nat.zero_le _, Nat.zero_le _, Lib.hid .nil, Lib.hid (Below.refl _ _)⟩
  case round =>
    obtain ⟨i, a, rfl, rfl, hi, ha, HT, HB⟩ := hrel
    by_cases hin : i < q
    · have d1 : decide (i < q) = true := by simpa using hin
      obtain ⟨_, _, e1, hcx⟩ := Hx.out.tok
      obtain ⟨g, off, e, x0, x1, x2⟩ := hcx i (by rw [Hq.out]; exact hin)
      cases e1
      subst e
      obtain ⟨a', k1, k2, k3, k4⟩ := Ht2.out.at (i := i) (by rw [Hq.out]; exact hin)
      obtain rfl := k1.uniq HT.out
      generalize ts[i]'(by rw [Hq.out]; exact hin) = t at *
      obtain ⟨tb, tn, td⟩ := t
      have hlen := k3.len
      have hdist := k3.longest k2 |>.1
      have hfit := k3.fits k2
      have hsz : max tn 1 = ((Tk.size ⟨tb, tn, td⟩ : Nat) : Int) := by unfold Tk.size; simp only at hlen ⊢; omega
      generalize Tk.size ⟨tb, tn, td⟩ = z at *
      have HT2 := Lib.hid k4
      simp only at x0 x1 x2 hlen hdist
      have x1 := cell_later HB.out x1
      have x2 := cell_later HB.out x2
      have i0 : (0 : Int) ≤ (i : Int) := by omega
      have i1 : (i : Int) < (q : Int) := by omega
      obtain ⟨az, haz⟩ : ∃ az, a' + z = az := ⟨_, rfl⟩
      have eaz : (a' : Int) + (z : Int) = (az : Int) := by omega
      rw [haz] at HT2 hfit
      clear hcx x0 k1 k2 k3 k4 haz
      by_cases h0 : tn = 0
      · subst h0
        go_wp2_with fail
        go_roundw
        case rel => exact ⟨i + 1, az, rfl, by go_num, by omega, hfit, HT2, HB⟩
        case measure => simp [intOf]; omega
      · have h3 : 3 ≤ tn ∧ tn ≤ 258 := by omega
        have hd := hdist (by omega)
        have c0 : decide (tn > 0) = true := by simp; omega
        have c1 : decide (tn < 3) = false := by simp; omega
        have c2 : decide (tn > 258) = false := by simp; omega
        have c3 : decide (td > (a' : Int)) = false := by simp; omega
        clear hdist hlen
        go_wp2_with fail
        go_roundw
        case rel => exact ⟨i + 1, az, rfl, by go_num, by omega, hfit, HT2, HB⟩
        case measure => simp [intOf]; omega
    · obtain rfl : i = q := by omega
      have d1 : decide (i < i) = false := by simp
      have hend : a = N := by
        have h1 := HT.out
        rw [List.take_of_length_le (by rw [Hq.out]; omega)] at h1
        exact Ht2.out.end h1
      subst hend
      go_wp2_with fail
      refine Calls.mono (matches_law wr) ?_
      rintro e w9 ⟨rfl, hb9⟩
      have Hb9 := Lib.hid (Below.thn (Below.thn Hb3.out HB.out) hb9)
      clear hb9
      go_wp2
      go_ret
      exact ⟨rfl, Hb9.out⟩

end Go.Proofs.Ytngiiacibbgiiaa
