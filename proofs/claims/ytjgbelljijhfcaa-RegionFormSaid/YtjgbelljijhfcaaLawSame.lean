/- The statements' own same: do two bands touch, and are they alike across? -/
import Derived.Test.YtjgbelljijhfcaaGoesOn
namespace Go.Proofs.Ytjgbelljijhfcaa
open Go.RowKit

set_option maxRecDepth 100000 in
set_option maxHeartbeats 2000000 in
theorem lawSame_any (va vb : Value) (a b : List Rc) (w : World) (ha : Row encR 4 w va a) (hb : Row encR 4 w vb b) (hbd : ∀ r ∈ a, (-4294967296 ≤ r.y ∧ r.y ≤ 4294967296) ∧ (-4294967296 ≤ r.b ∧ r.b ≤ 4294967296)) :
    Makes Try.prog 53 #[va, vb] w (.bool (goesOnB a b)) := by
  unfold Makes
  have hla := ha.len
  have hlb := hb.len
  obtain ⟨pa, ca, rfl, hca, hma, hpa⟩ := ha
  obtain ⟨pb, cb, rfl, hcb, hmb, hpb⟩ := hb
  by_cases h00 : a.length = 0
  · have h0 : ((a.length : Int) == 0) = true := by simp [h00]
    have Hf := Lib.hid (show goesOnB a b = false by rw [List.eq_nil_of_length_eq_zero h00]; rfl)
    clear h00 hbd hpa
    go_enter Try.func53, Try.ntmps53
    go_wp2
    go_quiet (fail)
    go_wp2
    go_ret
    exact ⟨ret_bool Hf.out.symm, Below.drewN' (Below.refl _ _) _⟩
  · have hz : ((a.length : Int) == 0) = false := by simpa using h00
    have hla0 : 0 < a.length := by omega
    clear h00
    by_cases hll : a.length = b.length
    · have hlb0 : 0 < b.length := by omega
      have hne : ((a.length : Int) != (b.length : Int)) = false := by simp [hll]
      obtain ⟨ba, oa, rfl, hBa, hc⟩ := hpa.rc hla0
      obtain ⟨bb, ob, rfl, hBb, hd⟩ := hpb.rc hlb0
      have hc0 := hc 0 hla0
      have hd0 := hd 0 hlb0
      have hb0 := hbd a[0] (List.getElem_mem hla0)
      have Hge := Lib.hid (goesOnB_eq hla0 hlb0)
      simp only [Nat.zero_mul, Nat.add_zero] at hc0 hd0
      generalize a[0] = r at *
      generalize b[0] = s at *
      obtain ⟨c0, c1, c2, c3⟩ := hc0
      obtain ⟨d0, d1, d2, d3⟩ := hd0
      have hw : IntKind.i64.wrap (r.y + r.b) = r.y + r.b := IntWalk.i64_in _ (by omega)
      have Hll := Lib.hid hll
      have Hpa := Lib.hid hpa
      have Hpb := Lib.hid hpb
      clear hll hbd hc hd hpa hpb
      by_cases hy : r.y + r.b = s.y
      · have hy' : ((r.y + r.b : Int) != s.y) = false := by simp [hy]
        have Hy := Lib.hid hy
        clear hy
        go_enter Try.func53, Try.ntmps53
        go_wp2
        go_quiet (fail)
        go_wp2
        go_loopw [5] (fun i wr => ∃ k : Nat, k ≤ a.length ∧ i = .int .i64 k ∧ Below w.heap.size w wr ∧ Hid (sameCols b a = sameCols (b.drop k) (a.drop k))) (fun i _ => a.length - (intOf i).toNat)
        case atStart => exact ⟨0, by omega, rfl, Below.drewN' (Below.refl _ _) _, Lib.hid rfl⟩
        case round =>
          obtain ⟨k, hk, rfl, hbw, He⟩ := hrel
          by_cases hlt2 : k < a.length
          · have hlt : k < b.length := by rw [← Hll.out]; exact hlt2
            obtain ⟨_, _, e, -, hc⟩ := (Hpa.out.below hbw).rc hlt2
            cases e
            obtain ⟨_, _, e, -, hd⟩ := (Hpb.out.below hbw).rc hlt
            cases e
            obtain ⟨p0, p1, p2, p3⟩ := hc k hlt2
            obtain ⟨q0, q1, q2, q3⟩ := hd k hlt
            have Hat := Lib.hid (sameCols_at hlt hlt2)
            have Hbx := Lib.hid hbw
            clear hc hd c0 c1 c2 c3 d0 d1 d2 d3
            generalize a[k] = ra at *
            generalize b[k] = rb at *
            go_wp2
            by_cases hx : rb.x = ra.x
            · have hx' : ((ra.x : Int) != rb.x) = false := by simp [hx]
              by_cases hww : rb.a = ra.a
              · have hww' : ((ra.a : Int) != rb.a) = false := by simp [hww]
                have Hn := Lib.hid (show sameCols b a = sameCols (b.drop (k + 1)) (a.drop (k + 1)) by rw [He.out, Hat.out]; simp [hx, hww])
                clear hx hww
                go_quiet (fail)
                go_wp2
                go_roundw
                case rel => exact ⟨k + 1, by omega, by go_num, Below.drewN' Hbx.out _, Hn⟩
                case measure => simp [intOf]; omega
              · have hww' : ((ra.a : Int) != rb.a) = true := by simp; omega
                have Hn := Lib.hid (show goesOnB a b = false by rw [Hge.out, He.out, Hat.out]; simp [hww])
                clear hx hww
                go_quiet (fail)
                go_wp2
                go_ret
                exact ⟨ret_bool Hn.out.symm, Below.drewN' Hbx.out _⟩
            · have hx' : ((ra.x : Int) != rb.x) = true := by simp; omega
              have Hn := Lib.hid (show goesOnB a b = false by rw [Hge.out, He.out, Hat.out]; simp [hx])
              clear hx
              go_quiet (fail)
              go_wp2
              go_ret
              exact ⟨ret_bool Hn.out.symm, Below.drewN' Hbx.out _⟩
          · have Hn := Lib.hid (show goesOnB a b = true by
              rw [Hge.out, He.out, List.drop_eq_nil_of_le (by have := Hll.out; omega), List.drop_eq_nil_of_le (by have := Hll.out; omega)]; simp [sameCols, Hll.out, Hy.out])
            go_wp2
            go_ret
            exact ⟨ret_bool Hn.out.symm, hbw⟩
      · have hy' : ((r.y + r.b : Int) != s.y) = true := by simp [hy]
        have Hn := Lib.hid (show goesOnB a b = false by rw [Hge.out]; simp [hy])
        clear hy
        go_enter Try.func53, Try.ntmps53
        go_wp2
        go_quiet (fail)
        go_wp2
        go_ret
        exact ⟨ret_bool Hn.out.symm, Below.drewN' (Below.refl _ _) _⟩
    · have hne : ((a.length : Int) != (b.length : Int)) = true := by simp; omega
      have Hn := Lib.hid (goesOnB_len hll)
      clear hll hbd hpa hpb
      go_enter Try.func53, Try.ntmps53
      go_wp2
      go_quiet (fail)
      go_wp2
      go_ret
      exact ⟨ret_bool Hn.out.symm, Below.drewN' (Below.refl _ _) _⟩

end Go.Proofs.Ytjgbelljijhfcaa
