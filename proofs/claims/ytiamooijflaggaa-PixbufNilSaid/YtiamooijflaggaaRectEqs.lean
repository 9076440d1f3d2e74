/- The contracts of package rect's functions that answer a bool, with the bool named. -/
import Derived.Test.YtiamooijflaggaaRectE
import Derived.Test.YtiamooijflaggaaRectMath
namespace Go.Proofs.Ytiamooijflaggaa
open Go.RowKit

theorem in_eq {b : Bool} (r s : Rc) (w : World) (h : inR r s = b) (hfr : Fit r) (hfs : Fit s) : Makes Try.prog 57 #[RV r, RV s] w (.bool b) := h ▸ in_any r s w hfr hfs
theorem empty_eq {b : Bool} (r : Rc) (w : World) (h : emptyR r = b) (hfr : Fit r) : Makes Try.prog 58 #[RV r] w (.bool b) := h ▸ empty_any r w hfr
theorem has_eq {b : Bool} (r : Rc) (x y : Int) (w : World) (h : hasR r x y = b) (hfr : Fit r) : Makes Try.prog 56 #[RV r, .int .i64 x, .int .i64 y] w (.bool b) := h ▸ has_any r x y w hfr
theorem good_eq {b : Bool} (r : Rc) (w : World) (h : goodR r = b) (hfr : Fit r) : Makes Try.prog 101 #[RV r] w (.bool b) := h ▸ good_any r w hfr
theorem shift_eq {s : Rc} (r : Rc) (x y : Int) (w : World) (h : shiftR r x y = s) (hfr : Fit r) : Makes Try.prog 59 #[RV r, .int .i64 x, .int .i64 y] w (RV s) := h ▸ shift_any r x y w hfr

theorem Lies.rules {W : World} {B : Nat} {r : Rc} (h : Lies W B r) : (∀ n : After W, n.world.cell? ⟨B, 0, none⟩ = some (.int .i64 r.x)) ∧ (∀ n : After W, n.world.cell? ⟨B, 1, none⟩ = some (.int .i64 r.y)) ∧ (∀ n : After W, n.world.cell? ⟨B, 2, none⟩ = some (.int .i64 r.a)) ∧ (∀ n : After W, n.world.cell? ⟨B, 3, none⟩ = some (.int .i64 r.b)) :=
  ⟨After.rule h.c0, After.rule h.c1, After.rule h.c2, After.rule h.c3⟩

/-- The cells of a rectangle that is boxed. -/
abbrev RO (r : Rc) : Obj := .cells #[.int .i64 r.x, .int .i64 r.y, .int .i64 r.a, .int .i64 r.b] 30

end Go.Proofs.Ytiamooijflaggaa
