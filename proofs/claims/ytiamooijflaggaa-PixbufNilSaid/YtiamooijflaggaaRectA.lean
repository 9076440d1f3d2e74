/- The walks of package rect's small functions (pick, reach, ends): what each call answers. -/
import Derived.Test.YtiamooijflaggaaBase
namespace Go.Proofs.Ytiamooijflaggaa
open Go.RowKit

def pickI (k x y : Int) : Int := if k = 0 then x else y

set_option maxHeartbeats 400000 in
theorem pick_any (k x y : Int) (w : World) :
    Calls Try.prog 105 #[.int .i64 k, .int .i64 x, .int .i64 y] w fun e w' => e = .returned (.int .i64 (pickI k x y)) ∧ w' = w := by
  by_cases hk : k = 0
  · subst hk
    go_enter Try.func105, Try.ntmps105
    go_wp2
    go_ret
    exact ⟨by simp [pickI], rfl⟩
  · have hk' : ((k : Int) == 0) = false := by simpa using hk
    go_enter Try.func105, Try.ntmps105
    go_wp2
    go_ret
    exact ⟨by simp [pickI, hk], rfl⟩

set_option maxHeartbeats 400000 in
theorem reach_any (k x y a b : Int) (w : World) :
    Makes Try.prog 107 #[.agg #[.int .i64 x, .int .i64 y, .int .i64 a, .int .i64 b], .int .i64 k] w (.tuple #[.int .i64 (pickI k x y), .int .i64 (pickI k a b)]) := by
  unfold Makes
  go_enter Try.func107, Try.ntmps107
  go_wp2
  go_quiet ((go_at_call 105; exact Calls.quiet_of_same (pick_any _ _ _ _)))
  go_wp2
  go_ret2
  exact ⟨rfl, Below.drewN' ((Below.refl _ _).alloc (Nat.le_refl _) _) _⟩

set_option maxHeartbeats 400000 in
theorem ends_any (k x y a b : Int) (w : World) (h1 : -9223372036854775808 ≤ pickI k x y + pickI k a b) (h2 : pickI k x y + pickI k a b ≤ 9223372036854775807) :
    Makes Try.prog 104 #[.agg #[.int .i64 x, .int .i64 y, .int .i64 a, .int .i64 b], .int .i64 k] w (.tuple #[.int .i64 (pickI k x y), .int .i64 (pickI k x y + pickI k a b)]) := by
  unfold Makes
  go_enter Try.func104, Try.ntmps104
  go_wp2_with (go_at_call 107; refine Calls.mono (reach_any _ _ _ _ _ _) ?_; rintro e w' ⟨rfl, hb⟩)
  go_ret2
  exact ⟨rfl, Below.thn (Below.al1 _ _) hb⟩

/-- One way of a good rectangle. -/
def wayGood (f s : Int) : Bool := decide (-1048576 ≤ f ∧ 0 ≤ s ∧ s ≤ 1048576 - f)

set_option maxHeartbeats 400000 in
theorem good1_any (k x y a b : Int) (B : Nat) (w : World) (hx : pickI k x y ≤ 9223372036854775807)
    (hc0 : w.cell? ⟨B, 0, none⟩ = some (.int .i64 x)) (hc1 : w.cell? ⟨B, 1, none⟩ = some (.int .i64 y)) (hc2 : w.cell? ⟨B, 2, none⟩ = some (.int .i64 a)) (hc3 : w.cell? ⟨B, 3, none⟩ = some (.int .i64 b)) :
    Makes Try.prog 122 #[.int .i64 k, .pointer (some ⟨B, 0, none⟩)] w (.bool (wayGood (pickI k x y) (pickI k a b))) := by
  unfold Makes
  go_enter Try.func122, Try.ntmps122
  go_wp2_with fail
  refine Calls.mono (reach_any _ _ _ _ _ _) ?_
  rintro e w' ⟨rfl, hb⟩
  go_wp2
  all_goals (go_ret; exact ⟨ret_bool (by rw [Bool.eq_iff_iff]; simp [wayGood]; omega), hb⟩)

set_option maxHeartbeats 400000 in
theorem both_any1 (F : FuncId) (q1 : Value) (b0 b1 : Bool) (w : World) (hF : Enters Try.prog F) (h0 : ∀ w1, Below w.heap.size w w1 → Makes Try.prog F #[.int .i64 0, q1] w1 (.bool b0)) (h1 : b0 = true → ∀ w1, Below w.heap.size w w1 → Makes Try.prog F #[.int .i64 1, q1] w1 (.bool b1)) :
    Makes Try.prog 102 #[.func (.func F) #[] #[q1]] w (.bool (b0 && b1)) := by
  unfold Makes
  have H0 := Lib.hid h0
  have H1 := Lib.hid h1
  clear h0 h1
  unfold Enters at hF
  go_enter Try.func102, Try.ntmps102
  go_wp2_with fail
  refine Calls.mono (H0.out _ (Below.refl _ _)) ?_
  rintro e w1 ⟨rfl, hb1⟩
  cases b0
  · go_wp2
    go_ret
    exact ⟨rfl, hb1⟩
  · go_wp2_with fail
    refine Calls.mono (H1.out (by first | rfl | trivial) _ hb1) ?_
    rintro e w2 ⟨rfl, hb2⟩
    go_wp2
    go_ret
    exact ⟨rfl, hb1.trans (hb2.mono hb1.size)⟩

set_option maxHeartbeats 400000 in
theorem both_any3 (F : FuncId) (q1 q2 q3 : Value) (b0 b1 : Bool) (w : World) (hF : Enters Try.prog F) (h0 : ∀ w1, Below w.heap.size w w1 → Makes Try.prog F #[.int .i64 0, q1, q2, q3] w1 (.bool b0)) (h1 : b0 = true → ∀ w1, Below w.heap.size w w1 → Makes Try.prog F #[.int .i64 1, q1, q2, q3] w1 (.bool b1)) :
    Makes Try.prog 102 #[.func (.func F) #[] #[q1, q2, q3]] w (.bool (b0 && b1)) := by
  unfold Makes
  have H0 := Lib.hid h0
  have H1 := Lib.hid h1
  clear h0 h1
  unfold Enters at hF
  go_enter Try.func102, Try.ntmps102
  go_wp2_with fail
  refine Calls.mono (H0.out _ (Below.refl _ _)) ?_
  rintro e w1 ⟨rfl, hb1⟩
  cases b0
  · go_wp2
    go_ret
    exact ⟨rfl, hb1⟩
  · go_wp2_with fail
    refine Calls.mono (H1.out (by first | rfl | trivial) _ hb1) ?_
    rintro e w2 ⟨rfl, hb2⟩
    go_wp2
    go_ret
    exact ⟨rfl, hb1.trans (hb2.mono hb1.size)⟩

/-- A rectangle's four numbers. -/
structure Rc where
  x : Int
  y : Int
  a : Int
  b : Int

abbrev RV (r : Rc) : Value := .agg #[.int .i64 r.x, .int .i64 r.y, .int .i64 r.a, .int .i64 r.b]

def Fit (r : Rc) : Prop := r.x ≤ 9223372036854775807 ∧ r.y ≤ 9223372036854775807

def goodR (r : Rc) : Bool := wayGood r.x r.a && wayGood r.y r.b
def wayFull (s : Int) : Bool := decide (0 < s)
def fullR (r : Rc) : Bool := wayFull r.a && wayFull r.b
def emptyR (r : Rc) : Bool := !goodR r || !fullR r

/-- The four cells of a rectangle that lies at the head of block B. -/
structure Lies (w : World) (B : Nat) (r : Rc) : Prop where
  c0 : w.cell? ⟨B, 0, none⟩ = some (.int .i64 r.x)
  c1 : w.cell? ⟨B, 1, none⟩ = some (.int .i64 r.y)
  c2 : w.cell? ⟨B, 2, none⟩ = some (.int .i64 r.a)
  c3 : w.cell? ⟨B, 3, none⟩ = some (.int .i64 r.b)

theorem Lies.later {w w1 : World} {B : Nat} {r : Rc} (h : Lies w B r) (hb : Below w.heap.size w w1) : Lies w1 B r :=
  ⟨cell_later hb h.c0, cell_later hb h.c1, cell_later hb h.c2, cell_later hb h.c3⟩
theorem Lies.new {w : World} {t : TypeId} {n : Nat} {r : Rc} (hn : n = w.heap.size) : Lies (w.alloc (.cells #[.int .i64 r.x, .int .i64 r.y, .int .i64 r.a, .int .i64 r.b] t)) n r :=
  ⟨cell_at hn rfl, cell_at hn rfl, cell_at hn rfl, cell_at hn rfl⟩

set_option maxHeartbeats 400000 in
theorem good_any (r : Rc) (w : World) (hf : Fit r) : Makes Try.prog 101 #[RV r] w (.bool (goodR r)) := by
  unfold Makes
  have hmf : ∀ (fn : Fn) (first cap : Array Value) (w : World), (Instr.makeFunc fn first cap).run Try.prog w = .ok (.func fn first cap) w := fun _ _ _ _ => rfl
  obtain ⟨hx, hy⟩ := hf
  go_enter Try.func101, Try.ntmps101
  go_wp2_with fail
  refine Calls.mono (both_any1 _ _ (wayGood r.x r.a) (wayGood r.y r.b) _ (enters_of Try.func122 (by kernel_rfl) rfl) ?_ ?_) ?_
  · intro w1 hb
    exact good1_any 0 r.x r.y r.a r.b _ w1 hx (below_cell hb (by simp) (by simp)) (below_cell hb (by simp) (by simp)) (below_cell hb (by simp) (by simp)) (below_cell hb (by simp) (by simp))
  · intro _ w1 hb
    exact good1_any 1 r.x r.y r.a r.b _ w1 hy (below_cell hb (by simp) (by simp)) (below_cell hb (by simp) (by simp)) (below_cell hb (by simp) (by simp)) (below_cell hb (by simp) (by simp))
  rintro e w1 ⟨rfl, hb1⟩
  go_wp2
  go_ret
  exact ⟨rfl, Below.thn (Below.al1 _ _) hb1⟩

set_option maxHeartbeats 400000 in
theorem empty1_any (k : Int) (r : Rc) (B : Nat) (w : World) (hl : Lies w B r) :
    Makes Try.prog 106 #[.int .i64 k, .pointer (some ⟨B, 0, none⟩)] w (.bool (wayFull (pickI k r.a r.b))) := by
  unfold Makes
  obtain ⟨hc0, hc1, hc2, hc3⟩ := hl
  go_enter Try.func106, Try.ntmps106
  go_wp2_with fail
  refine Calls.mono (reach_any _ _ _ _ _ _) ?_
  rintro e w' ⟨rfl, hb⟩
  go_wp2
  all_goals (go_ret; exact ⟨ret_bool (by rw [Bool.eq_iff_iff]; simp [wayFull]), hb⟩)

set_option maxHeartbeats 400000 in
theorem empty_any (r : Rc) (w : World) (hf : Fit r) : Makes Try.prog 58 #[RV r] w (.bool (emptyR r)) := by
  unfold Makes
  have hmf : ∀ (fn : Fn) (first cap : Array Value) (w : World), (Instr.makeFunc fn first cap).run Try.prog w = .ok (.func fn first cap) w := fun _ _ _ _ => rfl
  go_enter Try.func58, Try.ntmps58
  go_wp2_with fail
  refine Calls.mono (good_any _ _ hf) ?_
  rintro e w1 ⟨rfl, hb1⟩
  cases hg : goodR r
  · have Hg := Lib.hid hg
    clear hg
    go_wp2
    go_ret
    exact ⟨ret_bool (by simp [emptyR, Hg.out]), Below.thn (Below.al1 _ _) hb1⟩
  · have Hg := Lib.hid hg
    clear hg
    go_wp2_with fail
    refine Calls.mono (both_any1 _ _ (wayFull r.a) (wayFull r.b) _ (enters_of Try.func106 (by kernel_rfl) rfl) ?_ ?_) ?_
    · intro w2 hb2
      exact empty1_any 0 r _ w2 (((Lies.new rfl).later hb1).later hb2)
    · intro _ w2 hb2
      exact empty1_any 1 r _ w2 (((Lies.new rfl).later hb1).later hb2)
    rintro e w2 ⟨rfl, hb2⟩
    go_wp2
    go_ret
    exact ⟨ret_bool (by simp [emptyR, fullR, Hg.out]), Below.thn (Below.thn (Below.al1 _ _) hb1) hb2⟩

end Go.Proofs.Ytiamooijflaggaa
