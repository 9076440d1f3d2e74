/- The walks of package rect's Has, Area and Shift: what each call answers. -/
import Derived.Test.YtiamooijflaggaaRectA
namespace Go.Proofs.Ytiamooijflaggaa
open Go.RowKit

def wayHas (f s p : Int) : Bool := decide (f ≤ p ∧ p < f + s)
def hasR (r : Rc) (x y : Int) : Bool := goodR r && (wayHas r.x r.a x && wayHas r.y r.b y)
def areaR (r : Rc) : Int := if emptyR r = true then 0 else r.a * r.b

theorem wayGood_iff {f s : Int} : wayGood f s = true ↔ -1048576 ≤ f ∧ 0 ≤ s ∧ s ≤ 1048576 - f := by simp [wayGood]
theorem goodR_iff {r : Rc} : goodR r = true ↔ (-1048576 ≤ r.x ∧ 0 ≤ r.a ∧ r.a ≤ 1048576 - r.x) ∧ (-1048576 ≤ r.y ∧ 0 ≤ r.b ∧ r.b ≤ 1048576 - r.y) := by
  simp [goodR, wayGood_iff]
theorem wayGood_pick {r : Rc} (h : goodR r = true) (k : Int) : -1048576 ≤ pickI k r.x r.y ∧ 0 ≤ pickI k r.a r.b ∧ pickI k r.a r.b ≤ 1048576 - pickI k r.x r.y := by
  have := goodR_iff.1 h
  unfold pickI
  split <;> omega

set_option maxHeartbeats 400000 in
theorem has1_any (k x y : Int) (r : Rc) (B C D : Nat) (w : World) (hg : goodR r = true) (hl : Lies w B r) (hx : w.cell? ⟨C, 0, none⟩ = some (.int .i64 x)) (hy : w.cell? ⟨D, 0, none⟩ = some (.int .i64 y)) :
    Makes Try.prog 103 #[.int .i64 k, .pointer (some ⟨B, 0, none⟩), .pointer (some ⟨C, 0, none⟩), .pointer (some ⟨D, 0, none⟩)] w (.bool (wayHas (pickI k r.x r.y) (pickI k r.a r.b) (pickI k x y))) := by
  unfold Makes
  obtain ⟨g1, g2, g3⟩ := wayGood_pick hg k
  clear hg
  obtain ⟨hc0, hc1, hc2, hc3⟩ := hl
  go_enter Try.func103, Try.ntmps103
  go_wp2_with fail
  refine Calls.mono (ends_any _ _ _ _ _ _ (by omega) (by omega)) ?_
  rintro e w' ⟨rfl, hb⟩
  have hx' := cell_later hb hx
  have hy' := cell_later hb hy
  go_wp2_with fail
  refine Calls.mono (pick_any _ _ _ _) ?_
  rintro e w'' ⟨rfl, rfl⟩
  go_wp2
  all_goals (go_ret; exact ⟨ret_bool (by rw [Bool.eq_iff_iff]; simp [wayHas]; omega), hb⟩)

set_option maxHeartbeats 400000 in
theorem has_any (r : Rc) (x y : Int) (w : World) (hf : Fit r) : Makes Try.prog 56 #[RV r, .int .i64 x, .int .i64 y] w (.bool (hasR r x y)) := by
  unfold Makes
  have hmf : ∀ (fn : Fn) (first cap : Array Value) (w : World), (Instr.makeFunc fn first cap).run Try.prog w = .ok (.func fn first cap) w := fun _ _ _ _ => rfl
  go_enter Try.func56, Try.ntmps56
  go_wp2_with fail
  refine Calls.mono (good_any _ _ hf) ?_
  rintro e w1 ⟨rfl, hb1⟩
  have hbw : Below w.heap.size w w1 := Below.thn (Below.al3 _ _ _ _) hb1
  cases hg : goodR r
  · have Hg := Lib.hid hg
    clear hg
    go_wp2
    go_ret
    exact ⟨ret_bool (by simp [hasR, Hg.out]), hbw⟩
  · have Hg := Lib.hid hg
    clear hg
    have hl : Lies w1 w.heap.size r := (Lies.new rfl).later (Below.thn (Below.al2 _ _ _) hb1)
    have hcx : w1.cell? ⟨w.heap.size + 1, 0, none⟩ = some (.int .i64 x) := cell_later (Below.thn (Below.al1 _ _) hb1) (cell_at (by simp) rfl)
    have hcy : w1.cell? ⟨w.heap.size + 2, 0, none⟩ = some (.int .i64 y) := cell_later hb1 (cell_at (by simp) rfl)
    have HL := Lib.hid hl
    have HX := Lib.hid hcx
    have HY := Lib.hid hcy
    clear hl hcx hcy
    go_wp2_with fail
    refine Calls.mono (both_any3 _ _ _ _ (wayHas r.x r.a x) (wayHas r.y r.b y) _ (enters_of Try.func103 (by kernel_rfl) rfl) ?_ ?_) ?_
    · intro w2 hb2
      exact has1_any 0 x y r _ _ _ w2 Hg.out (HL.out.later hb2) (cell_later hb2 HX.out) (cell_later hb2 HY.out)
    · intro _ w2 hb2
      exact has1_any 1 x y r _ _ _ w2 Hg.out (HL.out.later hb2) (cell_later hb2 HX.out) (cell_later hb2 HY.out)
    rintro e w2 ⟨rfl, hb2⟩
    go_wp2
    go_ret
    exact ⟨ret_bool (by simp [hasR, Hg.out]), Below.thn hbw hb2⟩

set_option maxHeartbeats 400000 in
theorem area_any (r : Rc) (w : World) (hf : Fit r) : Makes Try.prog 77 #[RV r] w (.int .i64 (areaR r)) := by
  unfold Makes
  go_enter Try.func77, Try.ntmps77
  go_wp2_with fail
  refine Calls.mono (empty_any _ _ hf) ?_
  rintro e w1 ⟨rfl, hb1⟩
  have hbw : Below w.heap.size w w1 := Below.thn (Below.al1 _ _) hb1
  cases hg : emptyR r
  · have Hg := Lib.hid hg
    have hgd : goodR r = true := by
      unfold emptyR at hg
      cases h : goodR r
      · rw [h] at hg; simp at hg
      · rfl
    obtain ⟨⟨g1, g2, g3⟩, g4, g5, g6⟩ := goodR_iff.1 hgd
    clear hg hgd
    have hm0 : 0 ≤ r.a * r.b := Int.mul_nonneg g2 g5
    have hm1 : r.a * r.b ≤ 9223372036854775807 := Int.le_trans (Int.mul_le_mul (show r.a ≤ 2097152 by omega) (show r.b ≤ 2097152 by omega) g5 (by omega)) (by decide)
    have hl : Lies w1 w.heap.size r := (Lies.new rfl).later hb1
    obtain ⟨hc0, hc1, hc2, hc3⟩ := hl
    go_wp2
    go_ret
    exact ⟨ret_int (by simp [areaR, Hg.out]), hbw⟩
  · have Hg := Lib.hid hg
    clear hg
    go_wp2
    go_ret
    exact ⟨ret_int (by simp [areaR, Hg.out]), hbw⟩

end Go.Proofs.Ytiamooijflaggaa
