/- Several texts in one, each with its own head. -/
import Derived.Test.YtajoipmchgabfaaGreatRows
import Derived.WalkKit
import Derived.WalkSpells
import Derived.WalkLawsBesides
import Derived.Deep.QuietTactic
import Derived.BigQuiet
import Derived.Lib.Hide
import Derived.Shelf.Abstract
/- Small laws on worlds that grow (Below), on calls that only make memory (Makes), and on regions that draw their order and whose calls only make memory. Nothing here speaks of one program. -/
namespace Go.Proofs.YtajoipmchgabfaaGreat
open Go.RowKit

theorem Below.drewN' {B : Nat} {a w : World} (h : Below B a w) (n : Nat) : Below B a (w.drewN n) := ⟨h.os, h.tape, h.output, h.size, h.block⟩

/-- The call returns v; nothing that was there has changed. -/
def Makes (P : Program) (f : FuncId) (args : Array Value) (w : World) (v : Value) : Prop :=
  Calls P f args w fun e w' => e = .returned v ∧ Below w.heap.size w w'

/-- .. met in a world of the class 'below B as w was'. -/
theorem Makes.inClass {P : Program} {f : FuncId} {args : Array Value} {w w1 : World} {v : Value} {B : Nat} (h : Makes P f args w1 v) (hB : B ≤ w.heap.size) (hb : Below B w w1) :
    Calls P f args w1 fun e w'' => e = .returned v ∧ Below B w w'' :=
  Calls.mono h fun _ _ ⟨he, hb'⟩ => ⟨he, hb.trans (hb'.mono (Nat.le_trans hB hb.size))⟩

theorem below_cell {W w1 : World} {B : Nat} (hb : Below B W w1) {b o : Nat} {v : Value} (h : b < B) (hc : W.cell? ⟨b, o, none⟩ = some v) : w1.cell? ⟨b, o, none⟩ = some v :=
  (hb.cell (p := ⟨b, o, none⟩) h).trans hc

/-- Two steps, each of which keeps all that was there. -/
theorem Below.thn {a b c : World} (h : Below a.heap.size a b) (k : Below b.heap.size b c) : Below a.heap.size a c := h.trans (k.mono h.size)
theorem Below.al {a b : World} (h : Below a.heap.size a b) (o : Obj) : Below a.heap.size a (b.alloc o) := h.alloc h.size o
theorem Below.al1 (w : World) (o : Obj) : Below w.heap.size w (w.alloc o) := Below.al (Below.refl _ _) o
theorem Below.al2 (w : World) (o p : Obj) : Below w.heap.size w ((w.alloc o).alloc p) := Below.al (Below.al1 w o) p
theorem Below.al3 (w : World) (o p q : Obj) : Below w.heap.size w (((w.alloc o).alloc p).alloc q) := Below.al (Below.al2 w o p) q
theorem Below.al4 (w : World) (o p q r : Obj) : Below w.heap.size w ((((w.alloc o).alloc p).alloc q).alloc r) := Below.al (Below.al3 w o p q) r

theorem cell_at {w : World} {c : Array Value} {t : TypeId} {n i : Nat} {v : Value} (hn : n = w.heap.size) (hc : c[i]? = some v) : (w.alloc (.cells c t)).cell? ⟨n, i, none⟩ = some v := by
  rw [World.cell?_alloc_at c t n i hn]; exact hc

theorem free_at {w : World} {c : Array Value} {t : TypeId} {n i : Nat} (hn : n = w.heap.size) : (w.alloc (.cells c t)).frozen? ⟨n, i, none⟩ = false := World.frozen?_alloc_at c t n i hn
theorem free_later {w wx : World} {a : Addr} {v : Value} (hb : Below w.heap.size w wx) (h : w.cell? a = some v) (hf : w.frozen? a = false) : wx.frozen? a = false :=
  (hb.frozen (World.block_lt_of_cell? _ _ h)).trans hf
theorem Below.st {a b : World} (h : Below a.heap.size a b) (p : Addr) (hp : a.heap.size ≤ p.block) (u : Value) : Below a.heap.size a (b.setCell p u) := h.setCell hp u

theorem ret_bool {a b : Bool} (h : a = b) : Ending.returned (.bool a) = .returned (.bool b) := by rw [h]
theorem ret_int {k : IntKind} {a b : Int} (h : a = b) : Ending.returned (.int k a) = .returned (.int k b) := by rw [h]

/-- A region that draws its order, every operation of which, in every world that is below B as w was, yields one value and leaves such a world. -/
theorem wp_region_below {P : Program} {id : Nat} {Q : Exit → Act → World → Prop} {a : Act} {w : World} {l : List Oper} (B : Nat) (hm : P.follows .mixedOrders = true) (hB : Region.lexB .any l.toArray = true)
    (h : wpQuiet P l.toArray (Below B w) (fun a' => ∀ w', Below B w w' → Q .normal a' w') l a) : (Code.region id l.toArray true).wp P Q a w :=
  wp_region_quiet (C := Below B w) hm hB (Below.drew (Below.refl _ _)) (by simpa using h)

end Go.Proofs.YtajoipmchgabfaaGreat

/- The walks of package rect's small functions (pick, reach, ends): what each call answers. -/
namespace Go.Proofs.YtajoipmchgabfaaGreat
open Go.RowKit

def pickI (k x y : Int) : Int := if k = 0 then x else y

set_option maxHeartbeats 400000 in
theorem pick_any (k x y : Int) (w : World) :
    Calls Tryz.prog 78 #[.int .i64 k, .int .i64 x, .int .i64 y] w fun e w' => e = .returned (.int .i64 (pickI k x y)) ∧ w' = w := by
  by_cases hk : k = 0
  · subst hk
    go_enter Tryz.func78, Tryz.ntmps78
    go_wp2
    go_ret
    exact ⟨by simp [pickI], rfl⟩
  · have hk' : ((k : Int) == 0) = false := by simpa using hk
    go_enter Tryz.func78, Tryz.ntmps78
    go_wp2
    go_ret
    exact ⟨by simp [pickI, hk], rfl⟩

set_option maxHeartbeats 400000 in
theorem reach_any (k x y a b : Int) (w : World) :
    Makes Tryz.prog 65 #[.agg #[.int .i64 x, .int .i64 y, .int .i64 a, .int .i64 b], .int .i64 k] w (.tuple #[.int .i64 (pickI k x y), .int .i64 (pickI k a b)]) := by
  unfold Makes
  go_enter Tryz.func65, Tryz.ntmps65
  go_wp2
  go_quiet ((go_at_call 78; exact Calls.quiet_of_same (pick_any _ _ _ _)))
  go_wp2
  go_ret2
  exact ⟨rfl, Below.drewN' ((Below.refl _ _).alloc (Nat.le_refl _) _) _⟩

set_option maxHeartbeats 400000 in
theorem ends_any (k x y a b : Int) (w : World) (h1 : -9223372036854775808 ≤ pickI k x y + pickI k a b) (h2 : pickI k x y + pickI k a b ≤ 9223372036854775807) :
    Makes Tryz.prog 47 #[.agg #[.int .i64 x, .int .i64 y, .int .i64 a, .int .i64 b], .int .i64 k] w (.tuple #[.int .i64 (pickI k x y), .int .i64 (pickI k x y + pickI k a b)]) := by
  unfold Makes
  go_enter Tryz.func47, Tryz.ntmps47
  go_wp2_with (go_at_call 65; refine Calls.mono (reach_any _ _ _ _ _ _) ?_; rintro e w' ⟨rfl, hb⟩)
  go_ret2
  exact ⟨rfl, Below.thn (Below.al1 _ _) hb⟩

/-- One way of a good rectangle. -/
def wayGood (f s : Int) : Bool := decide (-1048576 ≤ f ∧ 0 ≤ s ∧ s ≤ 1048576 - f)

set_option maxHeartbeats 400000 in
theorem good1_any (k x y a b : Int) (B : Nat) (w : World) (hx : pickI k x y ≤ 9223372036854775807)
    (hc0 : w.cell? ⟨B, 0, none⟩ = some (.int .i64 x)) (hc1 : w.cell? ⟨B, 1, none⟩ = some (.int .i64 y)) (hc2 : w.cell? ⟨B, 2, none⟩ = some (.int .i64 a)) (hc3 : w.cell? ⟨B, 3, none⟩ = some (.int .i64 b)) :
    Makes Tryz.prog 77 #[.int .i64 k, .pointer (some ⟨B, 0, none⟩)] w (.bool (wayGood (pickI k x y) (pickI k a b))) := by
  unfold Makes
  go_enter Tryz.func77, Tryz.ntmps77
  go_wp2_with fail
  refine Calls.mono (reach_any _ _ _ _ _ _) ?_
  rintro e w' ⟨rfl, hb⟩
  go_wp2
  all_goals (go_ret; exact ⟨ret_bool (by rw [Bool.eq_iff_iff]; simp [wayGood]; omega), hb⟩)

set_option maxHeartbeats 400000 in
theorem both_any1 (F : FuncId) (q1 : Value) (b0 b1 : Bool) (w : World) (hF : Enters Tryz.prog F) (h0 : ∀ w1, Below w.heap.size w w1 → Makes Tryz.prog F #[.int .i64 0, q1] w1 (.bool b0)) (h1 : b0 = true → ∀ w1, Below w.heap.size w w1 → Makes Tryz.prog F #[.int .i64 1, q1] w1 (.bool b1)) :
    Makes Tryz.prog 63 #[.func (.func F) #[] #[q1]] w (.bool (b0 && b1)) := by
  unfold Makes
  have H0 := Lib.hid h0
  have H1 := Lib.hid h1
  clear h0 h1
  unfold Enters at hF
  go_enter Tryz.func63, Tryz.ntmps63
  go_wp2_with fail
  refine Calls.mono (H0.out _ (Below.refl _ _)) ?_
  rintro e w1 ⟨rfl, hb1⟩
  cases b0
  · go_wp2
    go_ret
    exact ⟨rfl, hb1⟩
  · go_wp2_with fail
    refine Calls.mono (H1.out (by first | rfl | trivial) _ hb1) ?_
    rintro e w2 ⟨rfl, hb2⟩
    go_wp2
    go_ret
    exact ⟨rfl, hb1.trans (hb2.mono hb1.size)⟩

set_option maxHeartbeats 400000 in
theorem both_any3 (F : FuncId) (q1 q2 q3 : Value) (b0 b1 : Bool) (w : World) (hF : Enters Tryz.prog F) (h0 : ∀ w1, Below w.heap.size w w1 → Makes Tryz.prog F #[.int .i64 0, q1, q2, q3] w1 (.bool b0)) (h1 : b0 = true → ∀ w1, Below w.heap.size w w1 → Makes Tryz.prog F #[.int .i64 1, q1, q2, q3] w1 (.bool b1)) :
    Makes Tryz.prog 63 #[.func (.func F) #[] #[q1, q2, q3]] w (.bool (b0 && b1)) := by
  unfold Makes
  have H0 := Lib.hid h0
  have H1 := Lib.hid h1
  clear h0 h1
  unfold Enters at hF
  go_enter Tryz.func63, Tryz.ntmps63
  go_wp2_with fail
  refine Calls.mono (H0.out _ (Below.refl _ _)) ?_
  rintro e w1 ⟨rfl, hb1⟩
  cases b0
  · go_wp2
    go_ret
    exact ⟨rfl, hb1⟩
  · go_wp2_with fail
    refine Calls.mono (H1.out (by first | rfl | trivial) _ hb1) ?_
    rintro e w2 ⟨rfl, hb2⟩
    go_wp2
    go_ret
    exact ⟨rfl, hb1.trans (hb2.mono hb1.size)⟩

/-- A rectangle's four numbers. -/
structure Rc where
  x : Int
  y : Int
  a : Int
  b : Int

abbrev RV (r : Rc) : Value := .agg #[.int .i64 r.x, .int .i64 r.y, .int .i64 r.a, .int .i64 r.b]

def Fit (r : Rc) : Prop := r.x ≤ 9223372036854775807 ∧ r.y ≤ 9223372036854775807

def goodR (r : Rc) : Bool := wayGood r.x r.a && wayGood r.y r.b
def wayFull (s : Int) : Bool := decide (0 < s)
def fullR (r : Rc) : Bool := wayFull r.a && wayFull r.b
def emptyR (r : Rc) : Bool := !goodR r || !fullR r

/-- The four cells of a rectangle that lies at the head of block B. -/
structure Lies (w : World) (B : Nat) (r : Rc) : Prop where
  c0 : w.cell? ⟨B, 0, none⟩ = some (.int .i64 r.x)
  c1 : w.cell? ⟨B, 1, none⟩ = some (.int .i64 r.y)
  c2 : w.cell? ⟨B, 2, none⟩ = some (.int .i64 r.a)
  c3 : w.cell? ⟨B, 3, none⟩ = some (.int .i64 r.b)

theorem Lies.later {w w1 : World} {B : Nat} {r : Rc} (h : Lies w B r) (hb : Below w.heap.size w w1) : Lies w1 B r :=
  ⟨cell_later hb h.c0, cell_later hb h.c1, cell_later hb h.c2, cell_later hb h.c3⟩
theorem Lies.new {w : World} {t : TypeId} {n : Nat} {r : Rc} (hn : n = w.heap.size) : Lies (w.alloc (.cells #[.int .i64 r.x, .int .i64 r.y, .int .i64 r.a, .int .i64 r.b] t)) n r :=
  ⟨cell_at hn rfl, cell_at hn rfl, cell_at hn rfl, cell_at hn rfl⟩

set_option maxHeartbeats 400000 in
theorem good_any (r : Rc) (w : World) (hf : Fit r) : Makes Tryz.prog 62 #[RV r] w (.bool (goodR r)) := by
  unfold Makes
  have hmf : ∀ (fn : Fn) (first cap : Array Value) (w : World), (Instr.makeFunc fn first cap).run Tryz.prog w = .ok (.func fn first cap) w := fun _ _ _ _ => rfl
  obtain ⟨hx, hy⟩ := hf
  go_enter Tryz.func62, Tryz.ntmps62
  go_wp2_with fail
  refine Calls.mono (both_any1 _ _ (wayGood r.x r.a) (wayGood r.y r.b) _ (enters_of Tryz.func77 (by kernel_rfl) rfl) ?_ ?_) ?_
  · intro w1 hb
    exact good1_any 0 r.x r.y r.a r.b _ w1 hx (below_cell hb (by simp) (by simp)) (below_cell hb (by simp) (by simp)) (below_cell hb (by simp) (by simp)) (below_cell hb (by simp) (by simp))
  · intro _ w1 hb
    exact good1_any 1 r.x r.y r.a r.b _ w1 hy (below_cell hb (by simp) (by simp)) (below_cell hb (by simp) (by simp)) (below_cell hb (by simp) (by simp)) (below_cell hb (by simp) (by simp))
  rintro e w1 ⟨rfl, hb1⟩
  go_wp2
  go_ret
  exact ⟨rfl, Below.thn (Below.al1 _ _) hb1⟩

set_option maxHeartbeats 400000 in
theorem empty1_any (k : Int) (r : Rc) (B : Nat) (w : World) (hl : Lies w B r) :
    Makes Tryz.prog 64 #[.int .i64 k, .pointer (some ⟨B, 0, none⟩)] w (.bool (wayFull (pickI k r.a r.b))) := by
  unfold Makes
  obtain ⟨hc0, hc1, hc2, hc3⟩ := hl
  go_enter Tryz.func64, Tryz.ntmps64
  go_wp2_with fail
  refine Calls.mono (reach_any _ _ _ _ _ _) ?_
  rintro e w' ⟨rfl, hb⟩
  go_wp2
  all_goals (go_ret; exact ⟨ret_bool (by rw [Bool.eq_iff_iff]; simp [wayFull]), hb⟩)

set_option maxHeartbeats 400000 in
theorem empty_any (r : Rc) (w : World) (hf : Fit r) : Makes Tryz.prog 44 #[RV r] w (.bool (emptyR r)) := by
  unfold Makes
  have hmf : ∀ (fn : Fn) (first cap : Array Value) (w : World), (Instr.makeFunc fn first cap).run Tryz.prog w = .ok (.func fn first cap) w := fun _ _ _ _ => rfl
  go_enter Tryz.func44, Tryz.ntmps44
  go_wp2_with fail
  refine Calls.mono (good_any _ _ hf) ?_
  rintro e w1 ⟨rfl, hb1⟩
  cases hg : goodR r
  · have Hg := Lib.hid hg
    clear hg
    go_wp2
    go_ret
    exact ⟨ret_bool (by simp [emptyR, Hg.out]), Below.thn (Below.al1 _ _) hb1⟩
  · have Hg := Lib.hid hg
    clear hg
    go_wp2_with fail
    refine Calls.mono (both_any1 _ _ (wayFull r.a) (wayFull r.b) _ (enters_of Tryz.func64 (by kernel_rfl) rfl) ?_ ?_) ?_
    · intro w2 hb2
      exact empty1_any 0 r _ w2 (((Lies.new rfl).later hb1).later hb2)
    · intro _ w2 hb2
      exact empty1_any 1 r _ w2 (((Lies.new rfl).later hb1).later hb2)
    rintro e w2 ⟨rfl, hb2⟩
    go_wp2
    go_ret
    exact ⟨ret_bool (by simp [emptyR, fullR, Hg.out]), Below.thn (Below.thn (Below.al1 _ _) hb1) hb2⟩

end Go.Proofs.YtajoipmchgabfaaGreat

/- The walks of package rect's Has, Area and Shift: what each call answers. -/
namespace Go.Proofs.YtajoipmchgabfaaGreat
open Go.RowKit

def wayHas (f s p : Int) : Bool := decide (f ≤ p ∧ p < f + s)
def hasR (r : Rc) (x y : Int) : Bool := goodR r && (wayHas r.x r.a x && wayHas r.y r.b y)
def areaR (r : Rc) : Int := if emptyR r = true then 0 else r.a * r.b

theorem wayGood_iff {f s : Int} : wayGood f s = true ↔ -1048576 ≤ f ∧ 0 ≤ s ∧ s ≤ 1048576 - f := by simp [wayGood]
theorem goodR_iff {r : Rc} : goodR r = true ↔ (-1048576 ≤ r.x ∧ 0 ≤ r.a ∧ r.a ≤ 1048576 - r.x) ∧ (-1048576 ≤ r.y ∧ 0 ≤ r.b ∧ r.b ≤ 1048576 - r.y) := by
  simp [goodR, wayGood_iff]
theorem wayGood_pick {r : Rc} (h : goodR r = true) (k : Int) : -1048576 ≤ pickI k r.x r.y ∧ 0 ≤ pickI k r.a r.b ∧ pickI k r.a r.b ≤ 1048576 - pickI k r.x r.y := by
  have := goodR_iff.1 h
  unfold pickI
  split <;> omega

end Go.Proofs.YtajoipmchgabfaaGreat

/- The walk of package rect's Shift: what it answers. -/
namespace Go.Proofs.YtajoipmchgabfaaGreat
open Go.RowKit

/-- A new rectangle's room: four cells that hold 0 and may be written. -/
structure Room (w : World) (B : Nat) : Prop where
  c0 : w.cell? ⟨B, 0, none⟩ = some (.int .i64 0)
  c1 : w.cell? ⟨B, 1, none⟩ = some (.int .i64 0)
  c2 : w.cell? ⟨B, 2, none⟩ = some (.int .i64 0)
  c3 : w.cell? ⟨B, 3, none⟩ = some (.int .i64 0)
  f0 : w.frozen? ⟨B, 0, none⟩ = false
  f1 : w.frozen? ⟨B, 1, none⟩ = false
  f2 : w.frozen? ⟨B, 2, none⟩ = false
  f3 : w.frozen? ⟨B, 3, none⟩ = false
theorem Room.later {w w1 : World} {B : Nat} (h : Room w B) (hb : Below w.heap.size w w1) : Room w1 B :=
  ⟨cell_later hb h.c0, cell_later hb h.c1, cell_later hb h.c2, cell_later hb h.c3, free_later hb h.c0 h.f0, free_later hb h.c1 h.f1, free_later hb h.c2 h.f2, free_later hb h.c3 h.f3⟩
theorem Room.new {w : World} {t : TypeId} {n : Nat} (hn : n = w.heap.size) : Room (w.alloc (.cells #[.int .i64 0, .int .i64 0, .int .i64 0, .int .i64 0] t)) n :=
  ⟨cell_at hn rfl, cell_at hn rfl, cell_at hn rfl, cell_at hn rfl, free_at hn, free_at hn, free_at hn, free_at hn⟩

/-- A rectangle stored, field by field. -/
theorem Lies.stored {w : World} {B : Nat} (h : Room w B) (r : Rc) :
    Lies ((((w.setCell ⟨B, 0, none⟩ (.int .i64 r.x)).setCell ⟨B, 1, none⟩ (.int .i64 r.y)).setCell ⟨B, 2, none⟩ (.int .i64 r.a)).setCell ⟨B, 3, none⟩ (.int .i64 r.b)) B r := by
  obtain ⟨c0, c1, c2, c3, f0, f1, f2, f3⟩ := h
  refine ⟨?_, ?_, ?_, ?_⟩ <;> simp [go_sem, c0, c1, c2, c3]
theorem Below.stored {w : World} {B : Nat} (r : Rc) : Below B w ((((w.setCell ⟨B, 0, none⟩ (.int .i64 r.x)).setCell ⟨B, 1, none⟩ (.int .i64 r.y)).setCell ⟨B, 2, none⟩ (.int .i64 r.a)).setCell ⟨B, 3, none⟩ (.int .i64 r.b)) := by
  refine Below.setCell ?_ (Nat.le_refl B) _
  refine Below.setCell ?_ (Nat.le_refl B) _
  refine Below.setCell ?_ (Nat.le_refl B) _
  refine Below.setCell ?_ (Nat.le_refl B) _
  exact Below.refl _ _

/-- The result, read out of its four cells. -/
theorem results_rc {fn : Func} {p : Tmp} {tmps : Array Value} {w : World} {B : Nat} {r : Rc} (h : fn.results = #[.cell p 37]) (hp : tmps.getD p undef = .pointer (some ⟨B, 0, none⟩)) (hl : Lies w B r) :
    (results fn tmps).run Tryz.prog w = .ok (RV r) w := by
  obtain ⟨c0, c1, c2, c3⟩ := hl
  have hp' : tmps[p]?.getD undef = .pointer (some ⟨B, 0, none⟩) := by simpa using hp
  simp [results, h, hp', go_sem, c0, c1, c2, c3]

def zeroRc : Rc := ⟨0, 0, 0, 0⟩
def wayShift (f s d : Int) : Bool := decide (-1048576 - f ≤ d ∧ d ≤ 1048576 - (f + s))
def shiftR (r : Rc) (dx dy : Int) : Rc := if (goodR r && (wayShift r.x r.a dx && wayShift r.y r.b dy)) = true then ⟨r.x + dx, r.y + dy, r.a, r.b⟩ else zeroRc

end Go.Proofs.YtajoipmchgabfaaGreat
