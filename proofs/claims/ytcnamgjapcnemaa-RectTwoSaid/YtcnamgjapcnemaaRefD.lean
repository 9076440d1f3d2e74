/- The walk of the document's own answer for Shift. -/
import Derived.Test.YtcnamgjapcnemaaRefC
namespace Go.Proofs.Ytcnamgjapcnemaa
open Go.RowKit

theorem shiftR_zero {r : Rc} {x y : Int} (h : goodR r = false ∨ ¬ ((-1048576 - r.x ≤ x ∧ x ≤ 1048576 - (r.x + r.a)) ∧ (-1048576 - r.y ≤ y ∧ y ≤ 1048576 - (r.y + r.b)))) : shiftR r x y = zeroRc := by
  unfold shiftR
  rw [if_neg]
  intro hh
  have h1 : goodR r = true ∧ (-1048576 - r.x ≤ x ∧ x ≤ 1048576 - (r.x + r.a)) ∧ (-1048576 - r.y ≤ y ∧ y ≤ 1048576 - (r.y + r.b)) := by simpa [wayShift] using hh
  rcases h with h | h
  · rw [h1.1] at h; cases h
  · exact h h1.2
theorem shiftR_some {r : Rc} {x y : Int} (hg : goodR r = true) (h : goodR ⟨r.x + x, r.y + y, r.a, r.b⟩ = true) : shiftR r x y = ⟨r.x + x, r.y + y, r.a, r.b⟩ := by
  have h1 := goodR_iff.1 hg
  have h2 := goodR_iff.1 h
  simp only at h2
  unfold shiftR
  rw [if_pos]
  simp [hg, wayShift]
  omega
theorem shiftR_bad {r : Rc} {x y : Int} (hg : goodR r = true) (h : goodR ⟨r.x + x, r.y + y, r.a, r.b⟩ = false) : shiftR r x y = zeroRc := by
  have h1 := goodR_iff.1 hg
  apply shiftR_zero
  refine Or.inr fun hh => ?_
  have : goodR ⟨r.x + x, r.y + y, r.a, r.b⟩ = true := goodR_iff.2 (by simp only; omega)
  rw [this] at h; cases h

set_option maxHeartbeats 1000000 in
theorem rshift_any (r : Rc) (x y : Int) (w : World) : Makes Try.prog 18 #[RV r, .int .i64 x, .int .i64 y] w (RV (shiftR r x y)) := by
  unfold Makes
  go_enter Try.func18, Try.ntmps18
  go_wp2_with fail
  refine Calls.mono (rgood_any _ _) ?_
  rintro e w1 ⟨rfl, hb1⟩
  have hbw : Below w.heap.size w w1 := Below.thn (Below.al2 _ _ _) hb1
  have hl : Lies w1 w.heap.size r := (Lies.new rfl).later (Below.thn (Below.al1 _ _) hb1)
  have hf0 : w1.frozen? ⟨w.heap.size, 0, none⟩ = false := free_later (Below.thn (Below.al1 _ _) hb1) (Lies.new (r := r) rfl).c0 (free_at rfl)
  have hf1 : w1.frozen? ⟨w.heap.size, 1, none⟩ = false := free_later (Below.thn (Below.al1 _ _) hb1) (Lies.new (r := r) rfl).c1 (free_at rfl)
  have hrm : Room w1 (w.heap.size + 1) := (Room.new (by simp)).later hb1
  have Hrm := Lib.hid hrm
  obtain ⟨rc0, rc1, rc2, rc3, rf0, rf1, rf2, rf3⟩ := hrm
  cases hg : goodR r
  · have Hg := Lib.hid hg
    clear hg
    go_wp2
    exact bodyPost_ret (v := RV zeroRc) (results_rc Try.results18 rfl (Lies.stored Hrm.out zeroRc)) rfl ⟨by rw [shiftR_zero (Or.inl Hg.out)], hbw.trans ((Below.stored zeroRc).mono (by omega))⟩
  · have Hg := Lib.hid hg
    obtain ⟨⟨g1, g2, g3⟩, g4, g5, g6⟩ := goodR_iff.1 hg
    clear hg
    obtain ⟨c0, c1, c2, c3⟩ := hl
    by_cases hfar : x < -4194304 ∨ 4194304 < x ∨ y < -4194304 ∨ 4194304 < y
    · have hz : shiftR r x y = zeroRc := shiftR_zero (Or.inr (by omega))
      have Hz := Lib.hid hz
      clear hz
      have Hfar := Lib.hid hfar
      clear hfar
      by_cases h1 : x < -4194304
      · go_wp2
        exact bodyPost_ret (v := RV zeroRc) (results_rc Try.results18 rfl (Lies.stored Hrm.out zeroRc)) rfl ⟨by rw [Hz.out], hbw.trans ((Below.stored zeroRc).mono (by omega))⟩
      by_cases h2 : 4194304 < x
      · go_wp2
        exact bodyPost_ret (v := RV zeroRc) (results_rc Try.results18 rfl (Lies.stored Hrm.out zeroRc)) rfl ⟨by rw [Hz.out], hbw.trans ((Below.stored zeroRc).mono (by omega))⟩
      by_cases h3 : y < -4194304
      · go_wp2
        exact bodyPost_ret (v := RV zeroRc) (results_rc Try.results18 rfl (Lies.stored Hrm.out zeroRc)) rfl ⟨by rw [Hz.out], hbw.trans ((Below.stored zeroRc).mono (by omega))⟩
      have h4 : 4194304 < y := by have := Hfar.out; omega
      go_wp2
      exact bodyPost_ret (v := RV zeroRc) (results_rc Try.results18 rfl (Lies.stored Hrm.out zeroRc)) rfl ⟨by rw [Hz.out], hbw.trans ((Below.stored zeroRc).mono (by omega))⟩
    · have h1 : -4194304 ≤ x := by omega
      have h2 : x ≤ 4194304 := by omega
      have h3 : -4194304 ≤ y := by omega
      have h4 : y ≤ 4194304 := by omega
      clear hfar
      have hL : Lies ((w1.setCell ⟨w.heap.size, 0, none⟩ (.int .i64 (r.x + x))).setCell ⟨w.heap.size, 1, none⟩ (.int .i64 (r.y + y))) w.heap.size ⟨r.x + x, r.y + y, r.a, r.b⟩ := by
        refine ⟨?_, ?_, ?_, ?_⟩ <;> simp [go_sem, c0, c1, c2, c3]
      have hR : Room ((w1.setCell ⟨w.heap.size, 0, none⟩ (.int .i64 (r.x + x))).setCell ⟨w.heap.size, 1, none⟩ (.int .i64 (r.y + y))) (w.heap.size + 1) := by
        refine ⟨?_, ?_, ?_, ?_, ?_, ?_, ?_, ?_⟩ <;> simp [go_sem, rc0, rc1, rc2, rc3, rf0, rf1, rf2, rf3]
      have hB : Below w.heap.size w ((w1.setCell ⟨w.heap.size, 0, none⟩ (.int .i64 (r.x + x))).setCell ⟨w.heap.size, 1, none⟩ (.int .i64 (r.y + y))) := by
        refine Below.setCell ?_ (Nat.le_refl w.heap.size) _
        exact Below.setCell hbw (Nat.le_refl w.heap.size) _
      have HL := Lib.hid hL
      have HR := Lib.hid hR
      have HB := Lib.hid hB
      clear hL hR hB
      go_wp2_with fail
      refine Calls.mono (rgood_any ⟨r.x + x, r.y + y, r.a, r.b⟩ _) ?_
      rintro e w2 ⟨rfl, hb2⟩
      have hbw2 := Below.thn HB.out hb2
      have hrm2 := HR.out.later hb2
      have Hrm2 := Lib.hid hrm2
      clear rc0 rc1 rc2 rc3 rf0 rf1 rf2 rf3 c0 c1 c2 c3
      obtain ⟨rc0, rc1, rc2, rc3, rf0, rf1, rf2, rf3⟩ := hrm2
      obtain ⟨c0, c1, c2, c3⟩ := HL.out.later hb2
      clear hb2
      cases hg2 : goodR ⟨r.x + x, r.y + y, r.a, r.b⟩
      · have Hg2 := Lib.hid hg2
        clear hg2
        go_wp2
        exact bodyPost_ret (v := RV zeroRc) (results_rc Try.results18 rfl (Lies.stored Hrm2.out zeroRc)) rfl ⟨by rw [shiftR_bad Hg.out Hg2.out], hbw2.trans ((Below.stored zeroRc).mono (by omega))⟩
      · have Hg2 := Lib.hid hg2
        clear hg2
        go_wp2
        exact bodyPost_ret (v := RV ⟨r.x + x, r.y + y, r.a, r.b⟩) (results_rc Try.results18 rfl (Lies.stored Hrm2.out ⟨r.x + x, r.y + y, r.a, r.b⟩)) rfl ⟨by rw [shiftR_some Hg.out Hg2.out], hbw2.trans ((Below.stored ⟨r.x + x, r.y + y, r.a, r.b⟩).mono (by omega))⟩

end Go.Proofs.Ytcnamgjapcnemaa
