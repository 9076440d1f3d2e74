/- The walk of package rect's In: what it answers. -/
import Derived.Test.YtiamooijflaggaaRectEq
import Derived.Test.YtiamooijflaggaaAfter
namespace Go.Proofs.Ytiamooijflaggaa
open Go.RowKit

theorem Lies.after {w : World} {B : Nat} {r : Rc} (h : Lies w B r) (n : After w) : Lies n.world B r := h.later n.below

set_option maxHeartbeats 800000 in
theorem in_any (r s : Rc) (w : World) (hfr : Fit r) (hfs : Fit s) : Makes Try.prog 57 #[RV r, RV s] w (.bool (inR r s)) := by
  unfold Makes
  go_enter Try.func57, Try.ntmps57
  go_wp2
  have hl : Lies ((w.alloc (.cells #[.int .i64 r.x, .int .i64 r.y, .int .i64 r.a, .int .i64 r.b] 30)).alloc (.cells #[.int .i64 s.x, .int .i64 s.y, .int .i64 s.a, .int .i64 s.b] 30)) w.heap.size r := (Lies.new rfl).later (Below.al1 _ _)
  have hm : Lies ((w.alloc (.cells #[.int .i64 r.x, .int .i64 r.y, .int .i64 r.a, .int .i64 r.b] 30)).alloc (.cells #[.int .i64 s.x, .int .i64 s.y, .int .i64 s.a, .int .i64 s.b] 30)) (w.heap.size + 1) s := Lies.new (by simp)
  have hbw := Below.al2 w (.cells #[.int .i64 r.x, .int .i64 r.y, .int .i64 r.a, .int .i64 r.b] 30) (.cells #[.int .i64 s.x, .int .i64 s.y, .int .i64 s.a, .int .i64 s.b] 30)
  generalize ((w.alloc (.cells #[.int .i64 r.x, .int .i64 r.y, .int .i64 r.a, .int .i64 r.b] 30)).alloc (.cells #[.int .i64 s.x, .int .i64 s.y, .int .i64 s.a, .int .i64 s.b] 30)) = W at *
  have c0 := After.cell hl.c0
  have c1 := After.cell hl.c1
  have c2 := After.cell hl.c2
  have c3 := After.cell hl.c3
  have d0 := After.cell hm.c0
  have d1 := After.cell hm.c1
  have d2 := After.cell hm.c2
  have d3 := After.cell hm.c3
  clear hl hm
  have hne := After.ne W
  have hq := eql_rc
  have hg := guard_rc
  cases her : emptyR r
  · have hE : ∀ w1, Makes Try.prog 58 #[RV r] w1 (.bool false) := fun w1 => her ▸ empty_any r w1 hfr
    have HE := Lib.hid hE
    have Her := Lib.hid her
    clear hE her
    refine wp_region_after (by kernel_rfl) (by kernel_rfl) ?_
    repeat (go_big_quiet_step ((first | (go_at_call 58; exact Makes.after (HE.out _)) | (go_at_call 86; exact Makes.after (and_any _ _ _ hfr hfs)))))
    refine wpQuiet_nil ?_
    rintro _ ⟨nq, rfl⟩
    go_wp2
    go_ret
    exact ⟨ret_bool (show eqR (andR r s) r = inR r s from by simp [inR, Her.out]), Below.thn hbw nq.below⟩
  · have hE : ∀ w1, Makes Try.prog 58 #[RV r] w1 (.bool true) := fun w1 => her ▸ empty_any r w1 hfr
    have HE := Lib.hid hE
    have Her := Lib.hid her
    clear hE her
    refine wp_region_after (by kernel_rfl) (by kernel_rfl) ?_
    repeat (go_big_quiet_step ((go_at_call 58; exact Makes.after (HE.out _))))
    refine wpQuiet_nil ?_
    rintro _ ⟨nq, rfl⟩
    go_wp2
    go_ret
    exact ⟨ret_bool (by simp [inR, Her.out]), Below.thn hbw nq.below⟩

end Go.Proofs.Ytiamooijflaggaa
