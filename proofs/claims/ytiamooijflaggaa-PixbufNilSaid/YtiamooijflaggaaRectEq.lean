/- Rectangles compared as structs: what '==' and '!=' give. -/
import Derived.Test.YtiamooijflaggaaRectD
namespace Go.Proofs.Ytiamooijflaggaa
open Go.RowKit

theorem rc_stood : Try.prog.stoodInHeld 30 = false := by kernel_rfl
theorem rc_guard : Try.prog.eqGuardType Try.prog.depth 30 = false := by kernel_rfl
theorem rc_fields : Try.prog.underlying 30 = some (.struct (Try.prog.fieldsOf 30)) := by kernel_rfl

theorem eqR_eq (r s : Rc) : (r.x == s.x && (r.y == s.y && (r.a == s.a && r.b == s.b))) = eqR r s := by
  rw [Bool.eq_iff_iff]; simp [eqR]

theorem guard_rc (op : BinOp) (x y : Operand) (xs ys : Array Value) (w : World) : (eqGuard op 30 x y (.agg xs) (.agg ys)).run Try.prog w = .ok () w := run_eqGuard_agg _ _ _ _ _ _ _ rc_guard

theorem equalIn_rc (r s : Rc) (w : World) : (Op.equalIn 10000 30 (RV r) (RV s)).run Try.prog w = .ok (eqR r s) w := by
  rw [show (10000 : Nat) = 9999 + 1 from rfl, run_equalIn_agg w 9999 _ _ _ rc_fields rc_stood]
  simp [go_sem, Op.eqFields]
  by_cases h1 : r.x = s.x <;> by_cases h2 : r.y = s.y <;> by_cases h3 : r.a = s.a <;> by_cases h4 : r.b = s.b <;> simp [eqR, h1, h2, h3, h4]

theorem eql_rc (x y a b x' y' a' b' : Int) (w : World) : (binOp .eql 30 (.agg #[.int .i64 x, .int .i64 y, .int .i64 a, .int .i64 b]) (.agg #[.int .i64 x', .int .i64 y', .int .i64 a', .int .i64 b'])).run Try.prog w = .ok (.bool (eqR ⟨x, y, a, b⟩ ⟨x', y', a', b'⟩)) w := by
  rw [run_eql_struct, equalIn_rc ⟨x, y, a, b⟩ ⟨x', y', a', b'⟩ w]; rfl
theorem neq_rc (x y a b x' y' a' b' : Int) (w : World) : (binOp .neq 30 (.agg #[.int .i64 x, .int .i64 y, .int .i64 a, .int .i64 b]) (.agg #[.int .i64 x', .int .i64 y', .int .i64 a', .int .i64 b'])).run Try.prog w = .ok (.bool (!eqR ⟨x, y, a, b⟩ ⟨x', y', a', b'⟩)) w := by
  rw [run_neq_struct, equalIn_rc ⟨x, y, a, b⟩ ⟨x', y', a', b'⟩ w]; rfl

end Go.Proofs.Ytiamooijflaggaa
