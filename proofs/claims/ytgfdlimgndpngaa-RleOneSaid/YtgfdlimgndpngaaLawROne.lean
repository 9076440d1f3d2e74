/- The walk of the statement RleOne. -/
import Derived.Test.YtgfdlimgndpngaaRleK
namespace Go.Proofs.Ytgfdlimgndpngaa
open Go.RowKit

theorem rlD_len (l : List Nat) (N : Int) : (rlD l N).1.length ≤ 65536 ∧ ((rlD l N).2 ≠ 0 → (rlD l N).1 = []) ∧ ((rlD l N).2 = 0 → (rlD l N).1 = rlay (rlT l) ∧ N = ((rlay (rlT l)).length : Int)) := by
  unfold rlD
  split
  · simp
  · split
    · simp
    · split
      · simp only; exact ⟨by omega, fun h => absurd rfl h, fun _ => ⟨trivial, by omega⟩⟩
      · simp
theorem rlay_low {rs : List (Nat × Nat)} (h : ∀ r ∈ rs, RlOk r) : ∀ x ∈ rlay rs, x < 16777216 := by
  intro x hx
  obtain ⟨r, hr, hx⟩ := List.mem_flatMap.1 hx
  rw [(List.mem_replicate.1 hx).2]
  exact (h r hr).2.2

set_option maxRecDepth 20000 in
set_option maxHeartbeats 8000000 in
theorem rone_any (v : Value) (l : List Nat) (N : Int) (w : World) (hv : Rw8 w v l) (h8 : ∀ x ∈ l, x < 256) (hN : -9223372036854775808 ≤ N ∧ N ≤ 9223372036854775807) :
    Makes Try.prog 6 #[v, .int .i64 N] w (.bool true) := by
  unfold Makes
  have Hv := Lib.hid hv.row
  obtain ⟨p, c, rfl, hc1, hc2, -⟩ := hv.src enc8_len (by decide)
  have HN := Lib.hid hN
  clear hv hN
  obtain ⟨n, hn⟩ : ∃ n, l.length = n := ⟨_, rfl⟩
  have Hn := Lib.hid hn
  rw [hn] at hc1 Hv ⊢
  clear hn
  go_enter Try.func6, Try.ntmps6
  by_cases hl : 4000 < n
  · have d0 : decide ((n : Int) > 4000) = true := by simp; omega
    go_wp2
    go_ret
    exact ⟨rfl, Below.refl _ _⟩
  have d0 : decide ((n : Int) > 4000) = false := by simp; omega
  obtain ⟨A, hA⟩ : ∃ A, rlD l N = A := ⟨_, rfl⟩
  obtain ⟨hA1, hA2, hA3⟩ := rlD_len l N
  rw [hA] at hA1 hA2 hA3
  have HA := Lib.hid hA
  clear hA
  go_wp2_with fail
  refine Calls.mono (rdec_row N Hv.out h8 (by omega) HN.out A HA.out) ?_
  rintro _ w2 ⟨p2, c2, rfl, ho2, hb2⟩
  have Hb2 := Lib.hid hb2
  have Ho2 := Lib.hid (own_rowP ho2)
  clear ho2 hb2
  obtain ⟨AL, ae⟩ := A
  simp only at hA1 hA2 hA3 Ho2 ⊢
  by_cases hae : ae = 0
  · subst hae
    obtain ⟨hAL, hNl⟩ := hA3 rfl
    have hok := rlT_ok l h8
    have hlow := rlay_low hok
    have hcl := rl_lay (rlT l) (fun r hr => (hok r hr).2.1)
    have hid : (rlay (rlT l)).map rlw = rlay (rlT l) := by
      conv => rhs; rw [← List.map_id (rlay (rlT l))]
      exact List.map_congr_left (fun x hx => Nat.mod_eq_of_lt (hlow x hx))
    have hdc : rlD (rlBs (rlO (rlay (rlT l)))) N = (rlay (rlT l), 0) := by
      rw [hNl, rlD_rl (by rw [← hAL]; exact hA1), hid]
    rw [← hAL] at hlow hcl hdc hNl
    have htl : 4 * (rlT l).length ≤ n := by rw [rlT_len, Hn.out]; omega
    have Hdc := Lib.hid hdc
    have Hlow := Lib.hid (fun x hx => Nat.lt_trans (hlow x hx) (by decide : 16777216 < 4294967296))
    have h256 := Lib.hid (rlBs_256 (rl_ok AL))
    have hcm : (rlO AL).length ≤ 4000 := by omega
    have hcle : 4 * (rlO AL).length ≤ n := by omega
    obtain ⟨q, hq⟩ : ∃ q, 4 * (rlO AL).length = q := ⟨_, rfl⟩
    have Hq := Lib.hid hq
    obtain ⟨m, hm⟩ : ∃ m, AL.length = m := ⟨_, rfl⟩
    have Hm := Lib.hid hm
    rw [hm] at hA1 Ho2 ⊢
    clear hA2 hA3 hAL hok hlow hcl hid hdc hNl htl hm
    have d1 : ((0 : Int) != 0) = false := by decide
    go_wp2_with fail
    refine Calls.mono (renc_row Ho2.out Hlow.out (by omega)) ?_
    rintro _ w3 ⟨p3, c3, rfl, ho3, hb3⟩
    rw [hq] at ho3 hcle ⊢
    have Hb3 := Lib.hid (Below.thn Hb2.out hb3)
    have Ho23 := Lib.hid (Ho2.out.below hb3)
    have Ho3 := Lib.hid (own_rowB ho3)
    clear ho3 hb3 hq
    go_wp2_with fail
    refine Calls.mono (rdec_row N Ho3.out h256.out (by omega) HN.out _ Hdc.out) ?_
    rintro _ w4 ⟨p4, c4, rfl, ho4, hb4⟩
    have Hb4 := Lib.hid (Below.thn Hb3.out hb4)
    have Ho24 := Lib.hid (Ho23.out.below hb4)
    have Ho4 := Lib.hid (own_rowP ho4)
    clear ho4 hb4
    simp only at Ho4 ⊢
    rw [Hm.out] at Ho4 ⊢
    have d2 : decide ((q : Int) ≤ (n : Int)) = true := by simp; omega
    have d3 : decide (q ≤ n) = true := by simp; omega
    go_wp2_with fail
    refine Calls.mono (rsame_row Ho24.out Ho4.out (by omega) (by omega) true (by simp)) ?_
    rintro _ w5 ⟨rfl, hb5⟩
    have Hb5 := Lib.hid (Below.thn Hb4.out hb5)
    clear hb5
    go_wp2_with fail
    refine Calls.mono (tells_law w5) ?_
    rintro _ w6 ⟨rfl, hb6⟩
    have Hb6 := Lib.hid (Below.thn Hb5.out hb6)
    clear hb6
    go_wp2
    go_ret
    exact ⟨rfl, Hb6.out⟩
  · have d1 : (ae != 0) = true := by simpa using hae
    obtain rfl := hA2 hae
    simp only [List.length_nil] at Ho2 ⊢
    go_wp2_with fail
    refine Calls.mono (tells_law w2) ?_
    rintro _ w6 ⟨rfl, hb6⟩
    have Hb6 := Lib.hid (Below.thn Hb2.out hb6)
    clear hb6
    go_wp2
    go_ret
    exact ⟨rfl, Hb6.out⟩

end Go.Proofs.Ytgfdlimgndpngaa
