/- Several texts in one, each with its own head. -/
import Derived.Test.YtajoipmchgabfaaM1
/- The walk of package rect's Shift: what it answers. -/
namespace Go.Proofs.Ytajoipmchgabfaa
open Go.RowKit

/-- A new rectangle's room: four cells that hold 0 and may be written. -/
structure Room (w : World) (B : Nat) : Prop where
  c0 : w.cell? ⟨B, 0, none⟩ = some (.int .i64 0)
  c1 : w.cell? ⟨B, 1, none⟩ = some (.int .i64 0)
  c2 : w.cell? ⟨B, 2, none⟩ = some (.int .i64 0)
  c3 : w.cell? ⟨B, 3, none⟩ = some (.int .i64 0)
  f0 : w.frozen? ⟨B, 0, none⟩ = false
  f1 : w.frozen? ⟨B, 1, none⟩ = false
  f2 : w.frozen? ⟨B, 2, none⟩ = false
  f3 : w.frozen? ⟨B, 3, none⟩ = false
theorem Room.later {w w1 : World} {B : Nat} (h : Room w B) (hb : Below w.heap.size w w1) : Room w1 B :=
  ⟨cell_later hb h.c0, cell_later hb h.c1, cell_later hb h.c2, cell_later hb h.c3, free_later hb h.c0 h.f0, free_later hb h.c1 h.f1, free_later hb h.c2 h.f2, free_later hb h.c3 h.f3⟩
theorem Room.new {w : World} {t : TypeId} {n : Nat} (hn : n = w.heap.size) : Room (w.alloc (.cells #[.int .i64 0, .int .i64 0, .int .i64 0, .int .i64 0] t)) n :=
  ⟨cell_at hn rfl, cell_at hn rfl, cell_at hn rfl, cell_at hn rfl, free_at hn, free_at hn, free_at hn, free_at hn⟩

/-- A rectangle stored, field by field. -/
theorem Lies.stored {w : World} {B : Nat} (h : Room w B) (r : Rc) :
    Lies ((((w.setCell ⟨B, 0, none⟩ (.int .i64 r.x)).setCell ⟨B, 1, none⟩ (.int .i64 r.y)).setCell ⟨B, 2, none⟩ (.int .i64 r.a)).setCell ⟨B, 3, none⟩ (.int .i64 r.b)) B r := by
  obtain ⟨c0, c1, c2, c3, f0, f1, f2, f3⟩ := h
  refine ⟨?_, ?_, ?_, ?_⟩ <;> simp [go_sem, c0, c1, c2, c3]
theorem Below.stored {w : World} {B : Nat} (r : Rc) : Below B w ((((w.setCell ⟨B, 0, none⟩ (.int .i64 r.x)).setCell ⟨B, 1, none⟩ (.int .i64 r.y)).setCell ⟨B, 2, none⟩ (.int .i64 r.a)).setCell ⟨B, 3, none⟩ (.int .i64 r.b)) := by
  refine Below.setCell ?_ (Nat.le_refl B) _
  refine Below.setCell ?_ (Nat.le_refl B) _
  refine Below.setCell ?_ (Nat.le_refl B) _
  refine Below.setCell ?_ (Nat.le_refl B) _
  exact Below.refl _ _

/-- The result, read out of its four cells. -/
theorem results_rc {fn : Func} {p : Tmp} {tmps : Array Value} {w : World} {B : Nat} {r : Rc} (h : fn.results = #[.cell p 38]) (hp : tmps.getD p undef = .pointer (some ⟨B, 0, none⟩)) (hl : Lies w B r) :
    (results fn tmps).run Try.prog w = .ok (RV r) w := by
  obtain ⟨c0, c1, c2, c3⟩ := hl
  have hp' : tmps[p]?.getD undef = .pointer (some ⟨B, 0, none⟩) := by simpa using hp
  simp [results, h, hp', go_sem, c0, c1, c2, c3]

def zeroRc : Rc := ⟨0, 0, 0, 0⟩
def wayShift (f s d : Int) : Bool := decide (-1048576 - f ≤ d ∧ d ≤ 1048576 - (f + s))
def shiftR (r : Rc) (dx dy : Int) : Rc := if (goodR r && (wayShift r.x r.a dx && wayShift r.y r.b dy)) = true then ⟨r.x + dx, r.y + dy, r.a, r.b⟩ else zeroRc

set_option maxHeartbeats 400000 in
theorem shift1_any (k x y : Int) (r : Rc) (B C D : Nat) (w : World) (hg : goodR r = true) (hl : Lies w B r) (hx : w.cell? ⟨C, 0, none⟩ = some (.int .i64 x)) (hy : w.cell? ⟨D, 0, none⟩ = some (.int .i64 y)) :
    Makes Try.prog 61 #[.int .i64 k, .pointer (some ⟨B, 0, none⟩), .pointer (some ⟨C, 0, none⟩), .pointer (some ⟨D, 0, none⟩)] w (.bool (wayShift (pickI k r.x r.y) (pickI k r.a r.b) (pickI k x y))) := by
  unfold Makes
  obtain ⟨g1, g2, g3⟩ := wayGood_pick hg k
  clear hg
  obtain ⟨hc0, hc1, hc2, hc3⟩ := hl
  go_enter Try.func61, Try.ntmps61
  go_wp2_with fail
  refine Calls.mono (ends_any _ _ _ _ _ _ (by omega) (by omega)) ?_
  rintro e w' ⟨rfl, hb⟩
  have hx' := cell_later hb hx
  have hy' := cell_later hb hy
  go_wp2_with fail
  refine Calls.mono (pick_any _ _ _ _) ?_
  rintro e w'' ⟨rfl, rfl⟩
  go_wp2
  all_goals (go_ret; exact ⟨ret_bool (by rw [Bool.eq_iff_iff]; simp [wayShift]; omega), hb⟩)

set_option maxHeartbeats 400000 in
theorem shift_any (r : Rc) (x y : Int) (w : World) (hf : Fit r) : Makes Try.prog 37 #[RV r, .int .i64 x, .int .i64 y] w (RV (shiftR r x y)) := by
  unfold Makes
  have hmf : ∀ (fn : Fn) (first cap : Array Value) (w : World), (Instr.makeFunc fn first cap).run Try.prog w = .ok (.func fn first cap) w := fun _ _ _ _ => rfl
  go_enter Try.func37, Try.ntmps37
  go_wp2_with fail
  refine Calls.mono (good_any _ _ hf) ?_
  rintro e w1 ⟨rfl, hb1⟩
  have hbw : Below w.heap.size w w1 := Below.thn (Below.al4 _ _ _ _ _) hb1
  have hl : Lies w1 w.heap.size r := (Lies.new rfl).later (Below.thn (Below.al3 _ _ _ _) hb1)
  have hcx : w1.cell? ⟨w.heap.size + 1, 0, none⟩ = some (.int .i64 x) := cell_later (Below.thn (Below.al2 _ _ _) hb1) (cell_at (by simp) rfl)
  have hcy : w1.cell? ⟨w.heap.size + 1 + 1, 0, none⟩ = some (.int .i64 y) := cell_later (Below.thn (Below.al1 _ _) hb1) (cell_at (by simp) rfl)
  have hrm : Room w1 (w.heap.size + 1 + 1 + 1) := (Room.new (by simp)).later hb1
  have Hrm := Lib.hid hrm
  obtain ⟨rc0, rc1, rc2, rc3, rf0, rf1, rf2, rf3⟩ := hrm
  cases hg : goodR r
  · have Hg := Lib.hid hg
    clear hg
    go_wp2
    exact bodyPost_ret (v := RV zeroRc) (results_rc Try.results37 rfl (Lies.stored Hrm.out zeroRc)) rfl ⟨by simp [shiftR, Hg.out], hbw.trans ((Below.stored zeroRc).mono (by omega))⟩
  · have Hg := Lib.hid hg
    clear hg
    have HL := Lib.hid hl
    have HX := Lib.hid hcx
    have HY := Lib.hid hcy
    clear hl hcx hcy rc0 rc1 rc2 rc3 rf0 rf1 rf2 rf3
    go_wp2_with fail
    refine Calls.mono (both_any3 _ _ _ _ (wayShift r.x r.a x) (wayShift r.y r.b y) _ (enters_of Try.func61 (by kernel_rfl) rfl) ?_ ?_) ?_
    · intro w2 hb2
      exact shift1_any 0 x y r _ _ _ w2 Hg.out (HL.out.later hb2) (cell_later hb2 HX.out) (cell_later hb2 HY.out)
    · intro _ w2 hb2
      exact shift1_any 1 x y r _ _ _ w2 Hg.out (HL.out.later hb2) (cell_later hb2 HX.out) (cell_later hb2 HY.out)
    rintro e w2 ⟨rfl, hb2⟩
    have hbw2 : Below w.heap.size w w2 := Below.thn hbw hb2
    have hrm2 := Hrm.out.later hb2
    have Hrm2 := Lib.hid hrm2
    obtain ⟨rc0, rc1, rc2, rc3, rf0, rf1, rf2, rf3⟩ := hrm2
    obtain ⟨hc0, hc1, hc2, hc3⟩ := HL.out.later hb2
    have hcx := cell_later hb2 HX.out
    have hcy := cell_later hb2 HY.out
    cases hs : (wayShift r.x r.a x && wayShift r.y r.b y)
    · have Hs := Lib.hid hs
      clear hs
      go_wp2
      exact bodyPost_ret (v := RV zeroRc) (results_rc Try.results37 rfl (Lies.stored Hrm2.out zeroRc)) rfl ⟨by simp [shiftR, Hs.out], hbw2.trans ((Below.stored zeroRc).mono (by omega))⟩
    · have Hs := Lib.hid hs
      have hs' : (-1048576 - r.x ≤ x ∧ x ≤ 1048576 - (r.x + r.a)) ∧ (-1048576 - r.y ≤ y ∧ y ≤ 1048576 - (r.y + r.b)) := by simpa [wayShift] using hs
      obtain ⟨⟨s1, s2⟩, s3, s4⟩ := hs'
      obtain ⟨⟨g1, g2, g3⟩, g4, g5, g6⟩ := goodR_iff.1 Hg.out
      clear hs
      go_wp2
      exact bodyPost_ret (v := RV ⟨r.x + x, r.y + y, r.a, r.b⟩) (results_rc Try.results37 rfl (Lies.stored Hrm2.out ⟨r.x + x, r.y + y, r.a, r.b⟩)) rfl ⟨by simp [shiftR, Hg.out, Hs.out], hbw2.trans ((Below.stored ⟨r.x + x, r.y + y, r.a, r.b⟩).mono (by omega))⟩

end Go.Proofs.Ytajoipmchgabfaa

/- The walks of package rect's And, Or and In: what each call answers. -/
namespace Go.Proofs.Ytajoipmchgabfaa
open Go.RowKit

theorem ret_two {a b c d : Int} (h : a = b) (h' : c = d) : Ending.returned (.tuple #[.int .i64 a, .int .i64 c]) = .returned (.tuple #[.int .i64 b, .int .i64 d]) := by rw [h, h']

def midR (r s : Rc) : Rc := ⟨max r.x s.x, max r.y s.y, min (r.x + r.a) (s.x + s.a) - max r.x s.x, min (r.y + r.b) (s.y + s.b) - max r.y s.y⟩
def andR (r s : Rc) : Rc := if emptyR r = true then zeroRc else if emptyR s = true then zeroRc else if emptyR (midR r s) = true then zeroRc else midR r s
def allR (r s : Rc) : Rc := ⟨min r.x s.x, min r.y s.y, max (r.x + r.a) (s.x + s.a) - min r.x s.x, max (r.y + r.b) (s.y + s.b) - min r.y s.y⟩
def orR (r s : Rc) : Rc := if emptyR r = true then (if emptyR s = true then zeroRc else s) else if emptyR s = true then r else allR r s
def eqR (r s : Rc) : Bool := decide (r.x = s.x ∧ r.y = s.y ∧ r.a = s.a ∧ r.b = s.b)
def inR (r s : Rc) : Bool := emptyR r || eqR (andR r s) r

theorem good_of_empty {r : Rc} (h : emptyR r = false) : goodR r = true := by
  unfold emptyR at h
  cases hg : goodR r
  · rw [hg] at h; simp at h
  · rfl
theorem emptyR_false {r : Rc} : emptyR r = false ↔ (-1048576 ≤ r.x ∧ 0 < r.a ∧ r.a ≤ 1048576 - r.x) ∧ (-1048576 ≤ r.y ∧ 0 < r.b ∧ r.b ≤ 1048576 - r.y) := by
  have : emptyR r = false ↔ goodR r = true ∧ fullR r = true := by simp [emptyR]
  rw [this, goodR_iff]
  simp [fullR, wayFull]
  omega
theorem midR_fit {r s : Rc} (hr : goodR r = true) (hs : goodR s = true) : Fit (midR r s) := by
  have := goodR_iff.1 hr
  have := goodR_iff.1 hs
  constructor <;> simp only [midR] <;> omega

set_option maxHeartbeats 400000 in
theorem between_any2 (F : FuncId) (q1 q2 : Value) (f0 e0 f1 e1 : Int) (w : World) (hF : Enters Try.prog F) (h0 : ∀ w1, Below w.heap.size w w1 → Makes Try.prog F #[.int .i64 0, q1, q2] w1 (.tuple #[.int .i64 f0, .int .i64 e0])) (h1 : ∀ w1, Below w.heap.size w w1 → Makes Try.prog F #[.int .i64 1, q1, q2] w1 (.tuple #[.int .i64 f1, .int .i64 e1]))
    (b1 : -9223372036854775808 ≤ e0 - f0) (b2 : e0 - f0 ≤ 9223372036854775807) (b3 : -9223372036854775808 ≤ e1 - f1) (b4 : e1 - f1 ≤ 9223372036854775807) :
    Makes Try.prog 59 #[.func (.func F) #[] #[q1, q2]] w (RV ⟨f0, f1, e0 - f0, e1 - f1⟩) := by
  unfold Makes
  have H0 := Lib.hid h0
  have H1 := Lib.hid h1
  clear h0 h1
  unfold Enters at hF
  go_enter Try.func59, Try.ntmps59
  go_wp2_with fail
  refine Calls.mono (H0.out _ (Below.al1 _ _)) ?_
  rintro e w1 ⟨rfl, hb1⟩
  go_wp2_with fail
  refine Calls.mono (H1.out _ (Below.thn (Below.al1 _ _) hb1)) ?_
  rintro e w2 ⟨rfl, hb2⟩
  have hrm : Room w2 w.heap.size := ((Room.new rfl).later hb1).later hb2
  have hbw2 : Below w.heap.size w w2 := Below.thn (Below.thn (Below.al1 _ _) hb1) hb2
  have Hrm := Lib.hid hrm
  obtain ⟨rc0, rc1, rc2, rc3, rf0, rf1, rf2, rf3⟩ := hrm
  go_wp2
  exact bodyPost_ret (v := RV ⟨f0, f1, e0 - f0, e1 - f1⟩) (results_rc Try.results59 rfl (Lies.stored Hrm.out ⟨f0, f1, e0 - f0, e1 - f1⟩)) rfl ⟨rfl, hbw2.trans ((Below.stored ⟨f0, f1, e0 - f0, e1 - f1⟩).mono (by omega))⟩

set_option maxHeartbeats 400000 in
theorem and1_any (k : Int) (r s : Rc) (B C : Nat) (w : World) (hgr : goodR r = true) (hgs : goodR s = true) (hl : Lies w B r) (hm : Lies w C s) :
    Makes Try.prog 60 #[.int .i64 k, .pointer (some ⟨B, 0, none⟩), .pointer (some ⟨C, 0, none⟩)] w
      (.tuple #[.int .i64 (max (pickI k r.x r.y) (pickI k s.x s.y)), .int .i64 (min (pickI k r.x r.y + pickI k r.a r.b) (pickI k s.x s.y + pickI k s.a s.b))]) := by
  unfold Makes
  obtain ⟨g1, g2, g3⟩ := wayGood_pick hgr k
  obtain ⟨g4, g5, g6⟩ := wayGood_pick hgs k
  clear hgr hgs
  have HM := Lib.hid hm
  clear hm
  obtain ⟨hc0, hc1, hc2, hc3⟩ := hl
  go_enter Try.func60, Try.ntmps60
  go_wp2_with fail
  refine Calls.mono (ends_any _ _ _ _ _ _ (by omega) (by omega)) ?_
  rintro e w' ⟨rfl, hb⟩
  obtain ⟨hd0, hd1, hd2, hd3⟩ := HM.out.later hb
  go_wp2_with fail
  refine Calls.mono (ends_any _ _ _ _ _ _ (by omega) (by omega)) ?_
  rintro e w'' ⟨rfl, hb2⟩
  go_wp2
  all_goals (go_ret2; exact ⟨ret_two (by omega) (by omega), Below.thn hb hb2⟩)

set_option maxHeartbeats 800000 in
theorem and_any (r s : Rc) (w : World) (hfr : Fit r) (hfs : Fit s) : Makes Try.prog 34 #[RV r, RV s] w (RV (andR r s)) := by
  unfold Makes
  have hmf : ∀ (fn : Fn) (first cap : Array Value) (w : World), (Instr.makeFunc fn first cap).run Try.prog w = .ok (.func fn first cap) w := fun _ _ _ _ => rfl
  go_enter Try.func34, Try.ntmps34
  go_wp2_with fail
  refine Calls.mono (empty_any _ _ hfr) ?_
  rintro e w1 ⟨rfl, hb1⟩
  have hbw : Below w.heap.size w w1 := Below.thn (Below.al3 _ _ _ _) hb1
  have hl : Lies w1 w.heap.size r := (Lies.new rfl).later (Below.thn (Below.al2 _ _ _) hb1)
  have hm : Lies w1 (w.heap.size + 1) s := (Lies.new (by simp)).later (Below.thn (Below.al1 _ _) hb1)
  have hrm : Room w1 (w.heap.size + 1 + 1) := (Room.new (by simp)).later hb1
  cases her : emptyR r
  · have Her := Lib.hid her
    clear her
    have HL := Lib.hid hl
    have HM := Lib.hid hm
    have Hrm := Lib.hid hrm
    clear hrm hl
    obtain ⟨d0, d1, d2, d3⟩ := hm
    go_wp2_with fail
    refine Calls.mono (empty_any _ _ hfs) ?_
    rintro e w2 ⟨rfl, hb2⟩
    have hbw2 := Below.thn hbw hb2
    clear d0 d1 d2 d3
    cases hes : emptyR s
    · have Hes := Lib.hid hes
      clear hes
      have hgr := good_of_empty Her.out
      have hgs := good_of_empty Hes.out
      have G := goodR_iff.1 hgr
      have G' := goodR_iff.1 hgs
      have HG := Lib.hid G
      have HG' := Lib.hid G'
      clear G G'
      have Hgr := Lib.hid hgr
      have Hgs := Lib.hid hgs
      clear hgr hgs
      go_wp2_with fail
      refine Calls.mono (between_any2 _ _ _ (max r.x s.x) (min (r.x + r.a) (s.x + s.a)) (max r.y s.y) (min (r.y + r.b) (s.y + s.b)) _ (enters_of Try.func60 (by kernel_rfl) rfl) ?_ ?_ ?_ ?_ ?_ ?_) ?_
      · intro w3 hb3
        exact and1_any 0 r s _ _ w3 Hgr.out Hgs.out ((HL.out.later hb2).later hb3) ((HM.out.later hb2).later hb3)
      · intro w3 hb3
        exact and1_any 1 r s _ _ w3 Hgr.out Hgs.out ((HL.out.later hb2).later hb3) ((HM.out.later hb2).later hb3)
      · have := HG.out; have := HG'.out; omega
      · have := HG.out; have := HG'.out; omega
      · have := HG.out; have := HG'.out; omega
      · have := HG.out; have := HG'.out; omega
      rintro e w3 ⟨rfl, hb3⟩
      have hbw3 := Below.thn hbw2 hb3
      go_wp2_with fail
      refine Calls.mono (empty_any (midR r s) _ (midR_fit Hgr.out Hgs.out)) ?_
      rintro e w4 ⟨rfl, hb4⟩
      have hbw4 := Below.thn hbw3 (Below.thn (Below.al1 _ _) hb4)
      have hmid : Lies w4 w3.heap.size (midR r s) := (Lies.new (r := midR r s) rfl).later hb4
      have hrm4 := ((Hrm.out.later hb2).later hb3).later (Below.thn (Below.al1 _ _) hb4)
      have Hrm4 := Lib.hid hrm4
      obtain ⟨rc0, rc1, rc2, rc3, rf0, rf1, rf2, rf3⟩ := hrm4
      obtain ⟨m0, m1, m2, m3⟩ := hmid
      cases hem : emptyR (midR r s)
      · have Hem := Lib.hid hem
        clear hem
        go_wp2
        exact bodyPost_ret (v := RV (midR r s)) (results_rc Try.results34 rfl (Lies.stored Hrm4.out (midR r s))) rfl ⟨by simp [andR, Her.out, Hes.out, Hem.out], hbw4.trans ((Below.stored (midR r s)).mono (by omega))⟩
      · have Hem := Lib.hid hem
        clear hem
        go_wp2
        exact bodyPost_ret (v := RV zeroRc) (results_rc Try.results34 rfl (Lies.stored Hrm4.out zeroRc)) rfl ⟨by simp [andR, Hem.out], hbw4.trans ((Below.stored zeroRc).mono (by omega))⟩
    · have Hes := Lib.hid hes
      clear hes
      have hrm2 := Hrm.out.later hb2
      have Hrm2 := Lib.hid hrm2
      obtain ⟨rc0, rc1, rc2, rc3, rf0, rf1, rf2, rf3⟩ := hrm2
      go_wp2
      exact bodyPost_ret (v := RV zeroRc) (results_rc Try.results34 rfl (Lies.stored Hrm2.out zeroRc)) rfl ⟨by simp [andR, Hes.out], hbw2.trans ((Below.stored zeroRc).mono (by omega))⟩
  · have Her := Lib.hid her
    have Hrm := Lib.hid hrm
    clear her hl hm
    obtain ⟨rc0, rc1, rc2, rc3, rf0, rf1, rf2, rf3⟩ := hrm
    go_wp2
    exact bodyPost_ret (v := RV zeroRc) (results_rc Try.results34 rfl (Lies.stored Hrm.out zeroRc)) rfl ⟨by simp [andR, Her.out], hbw.trans ((Below.stored zeroRc).mono (by omega))⟩

end Go.Proofs.Ytajoipmchgabfaa

/- Rectangles compared as structs: what '==' and '!=' give. -/
namespace Go.Proofs.Ytajoipmchgabfaa
open Go.RowKit

theorem rc_stood : Try.prog.stoodInHeld 38 = false := by kernel_rfl
theorem rc_guard : Try.prog.eqGuardType Try.prog.depth 38 = false := by kernel_rfl
theorem rc_fields : Try.prog.underlying 38 = some (.struct (Try.prog.fieldsOf 38)) := by kernel_rfl

theorem eqR_eq (r s : Rc) : (r.x == s.x && (r.y == s.y && (r.a == s.a && r.b == s.b))) = eqR r s := by
  rw [Bool.eq_iff_iff]; simp [eqR]

theorem guard_rc (op : BinOp) (x y : Operand) (xs ys : Array Value) (w : World) : (eqGuard op 38 x y (.agg xs) (.agg ys)).run Try.prog w = .ok () w := run_eqGuard_agg _ _ _ _ _ _ _ rc_guard

theorem equalIn_rc (r s : Rc) (w : World) : (Op.equalIn 10000 38 (RV r) (RV s)).run Try.prog w = .ok (eqR r s) w := by
  rw [show (10000 : Nat) = 9999 + 1 from rfl, run_equalIn_agg w 9999 _ _ _ rc_fields rc_stood]
  simp [go_sem, Op.eqFields]
  by_cases h1 : r.x = s.x <;> by_cases h2 : r.y = s.y <;> by_cases h3 : r.a = s.a <;> by_cases h4 : r.b = s.b <;> simp [eqR, h1, h2, h3, h4]

theorem eql_rc (x y a b x' y' a' b' : Int) (w : World) : (binOp .eql 38 (.agg #[.int .i64 x, .int .i64 y, .int .i64 a, .int .i64 b]) (.agg #[.int .i64 x', .int .i64 y', .int .i64 a', .int .i64 b'])).run Try.prog w = .ok (.bool (eqR ⟨x, y, a, b⟩ ⟨x', y', a', b'⟩)) w := by
  rw [run_eql_struct, equalIn_rc ⟨x, y, a, b⟩ ⟨x', y', a', b'⟩ w]; rfl
theorem neq_rc (x y a b x' y' a' b' : Int) (w : World) : (binOp .neq 38 (.agg #[.int .i64 x, .int .i64 y, .int .i64 a, .int .i64 b]) (.agg #[.int .i64 x', .int .i64 y', .int .i64 a', .int .i64 b'])).run Try.prog w = .ok (.bool (!eqR ⟨x, y, a, b⟩ ⟨x', y', a', b'⟩)) w := by
  rw [run_neq_struct, equalIn_rc ⟨x, y, a, b⟩ ⟨x', y', a', b'⟩ w]; rfl

end Go.Proofs.Ytajoipmchgabfaa
