/- The statement RectTells: the program's Good, Empty, Has, Area and Shift answer what the document's own answers are, for every rectangle and every two numbers. -/
import Derived.Test.YtcnamgjapcnemaaRefD
import Derived.Test.YtcnamgjapcnemaaRectWakes
namespace Go.Proofs.Ytcnamgjapcnemaa
open Go.RowKit

set_option maxHeartbeats 1000000 in
theorem tells_any (r : Rc) (x y : Int) (w : World) (hf : Fit r) : Makes Try.prog 3 #[RV r, .int .i64 x, .int .i64 y] w (.bool true) := by
  unfold Makes
  go_enter Try.func3, Try.ntmps3
  go_wp2
  have hl : Lies (w.alloc (.cells #[.int .i64 r.x, .int .i64 r.y, .int .i64 r.a, .int .i64 r.b] 23)) w.heap.size r := Lies.new rfl
  have hbw := Below.al1 w (.cells #[.int .i64 r.x, .int .i64 r.y, .int .i64 r.a, .int .i64 r.b] 23)
  generalize (w.alloc (.cells #[.int .i64 r.x, .int .i64 r.y, .int .i64 r.a, .int .i64 r.b] 23)) = W at *
  have c0 := After.cell hl.c0
  have c1 := After.cell hl.c1
  have c2 := After.cell hl.c2
  have c3 := After.cell hl.c3
  clear hl
  have hne := After.ne W
  have hq := eql_rc
  have hg := guard_rc
  have hes := eqR_self
  refine wp_region_after (by kernel_rfl) (by kernel_rfl) ?_
  repeat (go_big_quiet_step ((first
    | (go_at_call 9; exact Makes.after (good_any _ _ hf))
    | (go_at_call 10; exact Makes.after (rgood_any _ _))
    | (go_at_call 11; exact Makes.after (empty_any _ _ hf))
    | (go_at_call 12; exact Makes.after (rempty_any _ _))
    | (go_at_call 13; exact Makes.after (has_any _ _ _ _ hf))
    | (go_at_call 14; exact Makes.after (rhas_any _ _ _ _))
    | (go_at_call 15; exact Makes.after (area_any _ _ hf))
    | (go_at_call 16; exact Makes.after (rarea_any _ _))
    | (go_at_call 17; exact Makes.after (shift_any _ _ _ _ hf))
    | (go_at_call 18; exact Makes.after (rshift_any _ _ _ _))
    | (go_at_call 19; exact Makes.after (wakes_any _)))))
  refine wpQuiet_nil ?_
  rintro _ ⟨nq, rfl⟩
  go_wp2
  go_ret
  exact ⟨rfl, Below.thn hbw nq.below⟩

end Go.Proofs.Ytcnamgjapcnemaa
