/- Several texts in one, each with its own head. -/
import Derived.Test.YtjigdgfanpeibaaTB1
/- The walks of package rect's Has, Area and Shift: what each call answers. -/
namespace Go.Proofs.Ytjigdgfanpeibaa
open Go.RowKit

def wayHas (f s p : Int) : Bool := decide (f ≤ p ∧ p < f + s)
def hasR (r : Rc) (x y : Int) : Bool := goodR r && (wayHas r.x r.a x && wayHas r.y r.b y)
def areaR (r : Rc) : Int := if emptyR r = true then 0 else r.a * r.b

theorem wayGood_iff {f s : Int} : wayGood f s = true ↔ -1048576 ≤ f ∧ 0 ≤ s ∧ s ≤ 1048576 - f := by simp [wayGood]
theorem goodR_iff {r : Rc} : goodR r = true ↔ (-1048576 ≤ r.x ∧ 0 ≤ r.a ∧ r.a ≤ 1048576 - r.x) ∧ (-1048576 ≤ r.y ∧ 0 ≤ r.b ∧ r.b ≤ 1048576 - r.y) := by
  simp [goodR, wayGood_iff]
theorem wayGood_pick {r : Rc} (h : goodR r = true) (k : Int) : -1048576 ≤ pickI k r.x r.y ∧ 0 ≤ pickI k r.a r.b ∧ pickI k r.a r.b ≤ 1048576 - pickI k r.x r.y := by
  have := goodR_iff.1 h
  unfold pickI
  split <;> omega

set_option maxHeartbeats 400000 in
theorem has1_any (k x y : Int) (r : Rc) (B C D : Nat) (w : World) (hg : goodR r = true) (hl : Lies w B r) (hx : w.cell? ⟨C, 0, none⟩ = some (.int .i64 x)) (hy : w.cell? ⟨D, 0, none⟩ = some (.int .i64 y)) :
    Makes Try.prog 71 #[.int .i64 k, .pointer (some ⟨B, 0, none⟩), .pointer (some ⟨C, 0, none⟩), .pointer (some ⟨D, 0, none⟩)] w (.bool (wayHas (pickI k r.x r.y) (pickI k r.a r.b) (pickI k x y))) := by
  unfold Makes
  obtain ⟨g1, g2, g3⟩ := wayGood_pick hg k
  clear hg
  obtain ⟨hc0, hc1, hc2, hc3⟩ := hl
  go_enter Try.func71, Try.ntmps71
  go_wp2_with fail
  refine Calls.mono (ends_any _ _ _ _ _ _ (by omega) (by omega)) ?_
  rintro e w' ⟨rfl, hb⟩
  have hx' := cell_later hb hx
  have hy' := cell_later hb hy
  go_wp2_with fail
  refine Calls.mono (pick_any _ _ _ _) ?_
  rintro e w'' ⟨rfl, rfl⟩
  go_wp2
  all_goals (go_ret; exact ⟨ret_bool (by rw [Bool.eq_iff_iff]; simp [wayHas]; omega), hb⟩)

set_option maxHeartbeats 400000 in
theorem has_any (r : Rc) (x y : Int) (w : World) (hf : Fit r) : Makes Try.prog 39 #[RV r, .int .i64 x, .int .i64 y] w (.bool (hasR r x y)) := by
  unfold Makes
  have hmf : ∀ (fn : Fn) (first cap : Array Value) (w : World), (Instr.makeFunc fn first cap).run Try.prog w = .ok (.func fn first cap) w := fun _ _ _ _ => rfl
  go_enter Try.func39, Try.ntmps39
  go_wp2_with fail
  refine Calls.mono (good_any _ _ hf) ?_
  rintro e w1 ⟨rfl, hb1⟩
  have hbw : Below w.heap.size w w1 := Below.thn (Below.al3 _ _ _ _) hb1
  cases hg : goodR r
  · have Hg := Lib.hid hg
    clear hg
    go_wp2
    go_ret
    exact ⟨ret_bool (by simp [hasR, Hg.out]), hbw⟩
  · have Hg := Lib.hid hg
    clear hg
    have hl : Lies w1 w.heap.size r := (Lies.new rfl).later (Below.thn (Below.al2 _ _ _) hb1)
    have hcx : w1.cell? ⟨w.heap.size + 1, 0, none⟩ = some (.int .i64 x) := cell_later (Below.thn (Below.al1 _ _) hb1) (cell_at (by simp) rfl)
    have hcy : w1.cell? ⟨w.heap.size + 2, 0, none⟩ = some (.int .i64 y) := cell_later hb1 (cell_at (by simp) rfl)
    have HL := Lib.hid hl
    have HX := Lib.hid hcx
    have HY := Lib.hid hcy
    clear hl hcx hcy
    go_wp2_with fail
    refine Calls.mono (both_any3 _ _ _ _ (wayHas r.x r.a x) (wayHas r.y r.b y) _ (enters_of Try.func71 (by kernel_rfl) rfl) ?_ ?_) ?_
    · intro w2 hb2
      exact has1_any 0 x y r _ _ _ w2 Hg.out (HL.out.later hb2) (cell_later hb2 HX.out) (cell_later hb2 HY.out)
    · intro _ w2 hb2
      exact has1_any 1 x y r _ _ _ w2 Hg.out (HL.out.later hb2) (cell_later hb2 HX.out) (cell_later hb2 HY.out)
    rintro e w2 ⟨rfl, hb2⟩
    go_wp2
    go_ret
    exact ⟨ret_bool (by simp [hasR, Hg.out]), Below.thn hbw hb2⟩

set_option maxHeartbeats 400000 in
theorem area_any (r : Rc) (w : World) (hf : Fit r) : Makes Try.prog 33 #[RV r] w (.int .i64 (areaR r)) := by
  unfold Makes
  go_enter Try.func33, Try.ntmps33
  go_wp2_with fail
  refine Calls.mono (empty_any _ _ hf) ?_
  rintro e w1 ⟨rfl, hb1⟩
  have hbw : Below w.heap.size w w1 := Below.thn (Below.al1 _ _) hb1
  cases hg : emptyR r
  · have Hg := Lib.hid hg
    have hgd : goodR r = true := by
      unfold emptyR at hg
      cases h : goodR r
      · rw [h] at hg; simp at hg
      · rfl
    obtain ⟨⟨g1, g2, g3⟩, g4, g5, g6⟩ := goodR_iff.1 hgd
    clear hg hgd
    have hm0 : 0 ≤ r.a * r.b := Int.mul_nonneg g2 g5
    have hm1 : r.a * r.b ≤ 9223372036854775807 := Int.le_trans (Int.mul_le_mul (show r.a ≤ 2097152 by omega) (show r.b ≤ 2097152 by omega) g5 (by omega)) (by decide)
    have hl : Lies w1 w.heap.size r := (Lies.new rfl).later hb1
    obtain ⟨hc0, hc1, hc2, hc3⟩ := hl
    go_wp2
    go_ret
    exact ⟨ret_int (by simp [areaR, Hg.out]), hbw⟩
  · have Hg := Lib.hid hg
    clear hg
    go_wp2
    go_ret
    exact ⟨ret_int (by simp [areaR, Hg.out]), hbw⟩

end Go.Proofs.Ytjigdgfanpeibaa

/- The walk of package rect's Shift: what it answers. -/
namespace Go.Proofs.Ytjigdgfanpeibaa
open Go.RowKit

/-- A new rectangle's room: four cells that hold 0 and may be written. -/
structure Room (w : World) (B : Nat) : Prop where
  c0 : w.cell? ⟨B, 0, none⟩ = some (.int .i64 0)
  c1 : w.cell? ⟨B, 1, none⟩ = some (.int .i64 0)
  c2 : w.cell? ⟨B, 2, none⟩ = some (.int .i64 0)
  c3 : w.cell? ⟨B, 3, none⟩ = some (.int .i64 0)
  f0 : w.frozen? ⟨B, 0, none⟩ = false
  f1 : w.frozen? ⟨B, 1, none⟩ = false
  f2 : w.frozen? ⟨B, 2, none⟩ = false
  f3 : w.frozen? ⟨B, 3, none⟩ = false
theorem Room.later {w w1 : World} {B : Nat} (h : Room w B) (hb : Below w.heap.size w w1) : Room w1 B :=
  ⟨cell_later hb h.c0, cell_later hb h.c1, cell_later hb h.c2, cell_later hb h.c3, free_later hb h.c0 h.f0, free_later hb h.c1 h.f1, free_later hb h.c2 h.f2, free_later hb h.c3 h.f3⟩
theorem Room.new {w : World} {t : TypeId} {n : Nat} (hn : n = w.heap.size) : Room (w.alloc (.cells #[.int .i64 0, .int .i64 0, .int .i64 0, .int .i64 0] t)) n :=
  ⟨cell_at hn rfl, cell_at hn rfl, cell_at hn rfl, cell_at hn rfl, free_at hn, free_at hn, free_at hn, free_at hn⟩

/-- A rectangle stored, field by field. -/
theorem Lies.stored {w : World} {B : Nat} (h : Room w B) (r : Rc) :
    Lies ((((w.setCell ⟨B, 0, none⟩ (.int .i64 r.x)).setCell ⟨B, 1, none⟩ (.int .i64 r.y)).setCell ⟨B, 2, none⟩ (.int .i64 r.a)).setCell ⟨B, 3, none⟩ (.int .i64 r.b)) B r := by
  obtain ⟨c0, c1, c2, c3, f0, f1, f2, f3⟩ := h
  refine ⟨?_, ?_, ?_, ?_⟩ <;> simp [go_sem, c0, c1, c2, c3]
theorem Below.stored {w : World} {B : Nat} (r : Rc) : Below B w ((((w.setCell ⟨B, 0, none⟩ (.int .i64 r.x)).setCell ⟨B, 1, none⟩ (.int .i64 r.y)).setCell ⟨B, 2, none⟩ (.int .i64 r.a)).setCell ⟨B, 3, none⟩ (.int .i64 r.b)) := by
  refine Below.setCell ?_ (Nat.le_refl B) _
  refine Below.setCell ?_ (Nat.le_refl B) _
  refine Below.setCell ?_ (Nat.le_refl B) _
  refine Below.setCell ?_ (Nat.le_refl B) _
  exact Below.refl _ _

/-- The result, read out of its four cells. -/
theorem results_rc {fn : Func} {p : Tmp} {tmps : Array Value} {w : World} {B : Nat} {r : Rc} (h : fn.results = #[.cell p 38]) (hp : tmps.getD p undef = .pointer (some ⟨B, 0, none⟩)) (hl : Lies w B r) :
    (results fn tmps).run Try.prog w = .ok (RV r) w := by
  obtain ⟨c0, c1, c2, c3⟩ := hl
  have hp' : tmps[p]?.getD undef = .pointer (some ⟨B, 0, none⟩) := by simpa using hp
  simp [results, h, hp', go_sem, c0, c1, c2, c3]

def zeroRc : Rc := ⟨0, 0, 0, 0⟩
def wayShift (f s d : Int) : Bool := decide (-1048576 - f ≤ d ∧ d ≤ 1048576 - (f + s))
def shiftR (r : Rc) (dx dy : Int) : Rc := if (goodR r && (wayShift r.x r.a dx && wayShift r.y r.b dy)) = true then ⟨r.x + dx, r.y + dy, r.a, r.b⟩ else zeroRc

set_option maxHeartbeats 400000 in
theorem shift1_any (k x y : Int) (r : Rc) (B C D : Nat) (w : World) (hg : goodR r = true) (hl : Lies w B r) (hx : w.cell? ⟨C, 0, none⟩ = some (.int .i64 x)) (hy : w.cell? ⟨D, 0, none⟩ = some (.int .i64 y)) :
    Makes Try.prog 80 #[.int .i64 k, .pointer (some ⟨B, 0, none⟩), .pointer (some ⟨C, 0, none⟩), .pointer (some ⟨D, 0, none⟩)] w (.bool (wayShift (pickI k r.x r.y) (pickI k r.a r.b) (pickI k x y))) := by
  unfold Makes
  obtain ⟨g1, g2, g3⟩ := wayGood_pick hg k
  clear hg
  obtain ⟨hc0, hc1, hc2, hc3⟩ := hl
  go_enter Try.func80, Try.ntmps80
  go_wp2_with fail
  refine Calls.mono (ends_any _ _ _ _ _ _ (by omega) (by omega)) ?_
  rintro e w' ⟨rfl, hb⟩
  have hx' := cell_later hb hx
  have hy' := cell_later hb hy
  go_wp2_with fail
  refine Calls.mono (pick_any _ _ _ _) ?_
  rintro e w'' ⟨rfl, rfl⟩
  go_wp2
  all_goals (go_ret; exact ⟨ret_bool (by rw [Bool.eq_iff_iff]; simp [wayShift]; omega), hb⟩)

set_option maxHeartbeats 400000 in
theorem shift_any (r : Rc) (x y : Int) (w : World) (hf : Fit r) : Makes Try.prog 48 #[RV r, .int .i64 x, .int .i64 y] w (RV (shiftR r x y)) := by
  unfold Makes
  have hmf : ∀ (fn : Fn) (first cap : Array Value) (w : World), (Instr.makeFunc fn first cap).run Try.prog w = .ok (.func fn first cap) w := fun _ _ _ _ => rfl
  go_enter Try.func48, Try.ntmps48
  go_wp2_with fail
  refine Calls.mono (good_any _ _ hf) ?_
  rintro e w1 ⟨rfl, hb1⟩
  have hbw : Below w.heap.size w w1 := Below.thn (Below.al4 _ _ _ _ _) hb1
  have hl : Lies w1 w.heap.size r := (Lies.new rfl).later (Below.thn (Below.al3 _ _ _ _) hb1)
  have hcx : w1.cell? ⟨w.heap.size + 1, 0, none⟩ = some (.int .i64 x) := cell_later (Below.thn (Below.al2 _ _ _) hb1) (cell_at (by simp) rfl)
  have hcy : w1.cell? ⟨w.heap.size + 1 + 1, 0, none⟩ = some (.int .i64 y) := cell_later (Below.thn (Below.al1 _ _) hb1) (cell_at (by simp) rfl)
  have hrm : Room w1 (w.heap.size + 1 + 1 + 1) := (Room.new (by simp)).later hb1
  have Hrm := Lib.hid hrm
  obtain ⟨rc0, rc1, rc2, rc3, rf0, rf1, rf2, rf3⟩ := hrm
  cases hg : goodR r
  · have Hg := Lib.hid hg
    clear hg
    go_wp2
    exact bodyPost_ret (v := RV zeroRc) (results_rc Try.results48 rfl (Lies.stored Hrm.out zeroRc)) rfl ⟨by simp [shiftR, Hg.out], hbw.trans ((Below.stored zeroRc).mono (by omega))⟩
  · have Hg := Lib.hid hg
    clear hg
    have HL := Lib.hid hl
    have HX := Lib.hid hcx
    have HY := Lib.hid hcy
    clear hl hcx hcy rc0 rc1 rc2 rc3 rf0 rf1 rf2 rf3
    go_wp2_with fail
    refine Calls.mono (both_any3 _ _ _ _ (wayShift r.x r.a x) (wayShift r.y r.b y) _ (enters_of Try.func80 (by kernel_rfl) rfl) ?_ ?_) ?_
    · intro w2 hb2
      exact shift1_any 0 x y r _ _ _ w2 Hg.out (HL.out.later hb2) (cell_later hb2 HX.out) (cell_later hb2 HY.out)
    · intro _ w2 hb2
      exact shift1_any 1 x y r _ _ _ w2 Hg.out (HL.out.later hb2) (cell_later hb2 HX.out) (cell_later hb2 HY.out)
    rintro e w2 ⟨rfl, hb2⟩
    have hbw2 : Below w.heap.size w w2 := Below.thn hbw hb2
    have hrm2 := Hrm.out.later hb2
    have Hrm2 := Lib.hid hrm2
    obtain ⟨rc0, rc1, rc2, rc3, rf0, rf1, rf2, rf3⟩ := hrm2
    obtain ⟨hc0, hc1, hc2, hc3⟩ := HL.out.later hb2
    have hcx := cell_later hb2 HX.out
    have hcy := cell_later hb2 HY.out
    cases hs : (wayShift r.x r.a x && wayShift r.y r.b y)
    · have Hs := Lib.hid hs
      clear hs
      go_wp2
      exact bodyPost_ret (v := RV zeroRc) (results_rc Try.results48 rfl (Lies.stored Hrm2.out zeroRc)) rfl ⟨by simp [shiftR, Hs.out], hbw2.trans ((Below.stored zeroRc).mono (by omega))⟩
    · have Hs := Lib.hid hs
      have hs' : (-1048576 - r.x ≤ x ∧ x ≤ 1048576 - (r.x + r.a)) ∧ (-1048576 - r.y ≤ y ∧ y ≤ 1048576 - (r.y + r.b)) := by simpa [wayShift] using hs
      obtain ⟨⟨s1, s2⟩, s3, s4⟩ := hs'
      obtain ⟨⟨g1, g2, g3⟩, g4, g5, g6⟩ := goodR_iff.1 Hg.out
      clear hs
      go_wp2
      exact bodyPost_ret (v := RV ⟨r.x + x, r.y + y, r.a, r.b⟩) (results_rc Try.results48 rfl (Lies.stored Hrm2.out ⟨r.x + x, r.y + y, r.a, r.b⟩)) rfl ⟨by simp [shiftR, Hg.out, Hs.out], hbw2.trans ((Below.stored ⟨r.x + x, r.y + y, r.a, r.b⟩).mono (by omega))⟩

end Go.Proofs.Ytjigdgfanpeibaa
