/- The walk of the statement RectTwo: the program's And, Or and In answer what the document's own answers are. -/
import Derived.Test.YtcnamgjapcnemaaRefD
import Derived.Test.YtcnamgjapcnemaaRectWakes
namespace Go.Proofs.Ytcnamgjapcnemaa
open Go.RowKit

set_option maxHeartbeats 1000000 in
theorem two_any (r s : Rc) (w : World) (hf : Fit r) (hfs : Fit s) : Makes Try.prog 4 #[RV r, RV s] w (.bool true) := by
  unfold Makes
  go_enter Try.func4, Try.ntmps4
  go_wp2
  have hl : Lies ((w.alloc (.cells #[.int .i64 r.x, .int .i64 r.y, .int .i64 r.a, .int .i64 r.b] 23)).alloc (.cells #[.int .i64 s.x, .int .i64 s.y, .int .i64 s.a, .int .i64 s.b] 23)) w.heap.size r := (Lies.new rfl).later (Below.al1 _ _)
  have hm : Lies ((w.alloc (.cells #[.int .i64 r.x, .int .i64 r.y, .int .i64 r.a, .int .i64 r.b] 23)).alloc (.cells #[.int .i64 s.x, .int .i64 s.y, .int .i64 s.a, .int .i64 s.b] 23)) (w.heap.size + 1) s := Lies.new (by simp)
  have hbw := Below.al2 w (.cells #[.int .i64 r.x, .int .i64 r.y, .int .i64 r.a, .int .i64 r.b] 23) (.cells #[.int .i64 s.x, .int .i64 s.y, .int .i64 s.a, .int .i64 s.b] 23)
  generalize ((w.alloc (.cells #[.int .i64 r.x, .int .i64 r.y, .int .i64 r.a, .int .i64 r.b] 23)).alloc (.cells #[.int .i64 s.x, .int .i64 s.y, .int .i64 s.a, .int .i64 s.b] 23)) = W at *
  have c0 := After.cell hl.c0
  have c1 := After.cell hl.c1
  have c2 := After.cell hl.c2
  have c3 := After.cell hl.c3
  have d0 := After.cell hm.c0
  have d1 := After.cell hm.c1
  have d2 := After.cell hm.c2
  have d3 := After.cell hm.c3
  clear hl hm
  have hne := After.ne W
  have hq := eql_rc
  have hg := guard_rc
  have hes := eqR_self
  refine wp_region_after (by kernel_rfl) (by kernel_rfl) ?_
  repeat (go_big_quiet_step ((first
    | (go_at_call 20; exact Makes.after (and_any _ _ _ hf hfs))
    | (go_at_call 21; exact Makes.after (rand_any _ _ _))
    | (go_at_call 22; exact Makes.after (or_any _ _ _ hf hfs))
    | (go_at_call 23; exact Makes.after (ror_any _ _ _))
    | (go_at_call 24; exact Makes.after (in_any _ _ _ hf hfs))
    | (go_at_call 25; exact Makes.after (rin_any _ _ _))
    | (go_at_call 19; exact Makes.after (wakes_any _)))))
  refine wpQuiet_nil ?_
  rintro _ ⟨nq, rfl⟩
  go_wp2
  go_ret
  exact ⟨rfl, Below.thn hbw nq.below⟩

end Go.Proofs.Ytcnamgjapcnemaa
