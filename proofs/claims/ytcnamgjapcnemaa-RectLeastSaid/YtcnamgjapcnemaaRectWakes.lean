/- The known cases that stand in each statement on rectangles: they hold. -/
import Derived.Test.YtcnamgjapcnemaaRectEqs
namespace Go.Proofs.Ytcnamgjapcnemaa
open Go.RowKit

set_option maxHeartbeats 1000000 in
theorem wakes_any (w : World) : Makes Try.prog 19 #[] w (.bool true) := by
  unfold Makes
  have hq := eql_rc
  have hg := guard_rc
  go_enter Try.func19, Try.ntmps19
  go_wp2_with fail
  refine Calls.mono (and_any ⟨0, 0, 4, 4⟩ ⟨2, 2, 4, 4⟩ _ (by constructor <;> simp) (by constructor <;> simp)) ?_
  rintro e w1 ⟨rfl, hb1⟩
  rw [show andR ⟨0, 0, 4, 4⟩ ⟨2, 2, 4, 4⟩ = ⟨2, 2, 2, 2⟩ from by kernel_rfl]
  have he : eqR ⟨2, 2, 2, 2⟩ ⟨2, 2, 2, 2⟩ = true := by decide
  go_wp2_with fail
  refine Calls.mono (good_any ⟨1048575, 0, 1, 1⟩ _ (by constructor <;> simp)) ?_
  rintro e w2 ⟨rfl, hb2⟩
  rw [show goodR ⟨1048575, 0, 1, 1⟩ = true from by decide]
  go_wp2_with fail
  refine Calls.mono (good_any ⟨1048576, 0, 1, 1⟩ _ (by constructor <;> simp)) ?_
  rintro e w3 ⟨rfl, hb3⟩
  rw [show goodR ⟨1048576, 0, 1, 1⟩ = false from by decide]
  go_wp2_with fail
  refine Calls.mono (area_any ⟨0, 0, 3, 2⟩ _ (by constructor <;> simp)) ?_
  rintro e w4 ⟨rfl, hb4⟩
  rw [show areaR ⟨0, 0, 3, 2⟩ = 6 from by decide]
  go_wp2
  go_ret
  exact ⟨rfl, Below.thn (Below.thn (Below.thn hb1 hb2) hb3) hb4⟩

end Go.Proofs.Ytcnamgjapcnemaa
