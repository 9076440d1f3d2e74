/- The statements' closed picture of layer 3: it answers true, and keeps all that there is. -/
import Derived.Test.YtiamooijflaggaaPixL
namespace Go.Proofs.Ytiamooijflaggaa
open Go.RowKit

set_option maxRecDepth 100000 in
set_option maxHeartbeats 4000000 in
theorem wakes3_any (w : World) : Makes Try.prog 30 #[] w (.bool true) := by
  unfold Makes
  go_enter Try.func30, Try.ntmps30
  go_wp2_with fail
  have hP1 : Pix (w.alloc (.cells #[.int .u32 1, .int .u32 2, .int .u32 3, .int .u32 4, .int .u32 5, .int .u32 6] 49)) w.heap.size [1, 2, 3, 4, 5, 6] := Array.getElem?_push_size
  have hbw := Below.al1 w (.cells #[.int .u32 1, .int .u32 2, .int .u32 3, .int .u32 4, .int .u32 5, .int .u32 6] 49)
  generalize (w.alloc (.cells #[.int .u32 1, .int .u32 2, .int .u32 3, .int .u32 4, .int .u32 5, .int .u32 6] 49)) = W1 at *
  have hf := from_yes 3 2 w.heap.size 0 6 6 [1, 2, 3, 4, 5, 6] W1 hP1.row rfl (by decide) (by decide) (by intro v hv; simp at hv; omega) (by decide) (by decide) (by decide)
  rw [show cutL 3 0 0 3 2 [1, 2, 3, 4, 5, 6] = [1, 2, 3, 4, 5, 6] by decide] at hf
  refine Calls.mono hf ?_
  rintro e w2 ⟨B, g, rfl, hB, hBl, hgl, hBg, hb2⟩
  have hbw2 := Below.thn hbw hb2
  have Hf := Lib.hid hbw2
  have hsz := hbw.size
  have HB := Lib.hid hB
  clear hf hP1 hbw hb2 hbw2
  go_wp2_with fail
  have hcp := copy_yes B 3 2 g 1 0 2 2 0 0 1 0 [1, 2, 3, 4, 5, 6] w2 HB.out hBg (by decide) (by decide) (by decide) (by decide) (by decide) (by decide) (by kernel_rfl)
  rw [show layL 3 1 0 2 2 0 0 (cutL 3 0 0 2 2 [1, 2, 3, 4, 5, 6]) [1, 2, 3, 4, 5, 6] 2 = [1, 1, 2, 4, 4, 5] by decide] at hcp
  refine Calls.mono hcp ?_
  rintro e w3 ⟨rfl, hB3, ht3⟩
  have hbw3 := Hf.out.trans (ht3.below (B := w.heap.size) (by have := Hf.out.size; omega) (by rintro i rfl; omega))
  have Hf3 := Lib.hid hbw3
  have HB3 := Lib.hid hB3
  clear hcp hB hB3 ht3 hbw3 Hf HB
  go_wp2_with fail
  have hat := at_in B 3 2 g 2 1 [1, 1, 2, 4, 4, 5] w3 HB3.out (by decide) (by decide) (by decide)
  refine Calls.mono hat ?_
  rintro e w4 ⟨rfl, hb4⟩
  have Hf4 := Lib.hid (Hf3.out.trans (hb4.mono Hf3.out.size))
  have HB4 := Lib.hid (HB3.out.later hb4)
  clear hat hb4 Hf3 HB3
  go_wp2_with fail
  refine Calls.mono (image_any B 3 2 g [1, 1, 2, 4, 4, 5] w4 HB4.out) ?_
  rintro e w5 ⟨g5, rfl, hg5, hP5, hb5⟩
  have Hf5 := Lib.hid (Hf4.out.trans (hb5.mono Hf4.out.size))
  have HP5 := Lib.hid hP5
  clear hP5 hb5 hg5
  go_wp2_with fail
  have hP6 : Pix (w5.alloc (.cells #[.int .u32 1, .int .u32 1, .int .u32 2, .int .u32 4, .int .u32 4, .int .u32 5] 49)) w5.heap.size [1, 1, 2, 4, 4, 5] := Array.getElem?_push_size
  have hb6 := Below.al1 w5 (.cells #[.int .u32 1, .int .u32 1, .int .u32 2, .int .u32 4, .int .u32 4, .int .u32 5] 49)
  have hP5 := HP5.out.later hb6
  have Hf6 := Lib.hid (Hf5.out.trans (hb6.mono Hf5.out.size))
  refine Calls.mono (refSame_any 3 2 3 2 _ _ 6 6 [1, 1, 2, 4, 4, 5] [1, 1, 2, 4, 4, 5] _ hP5.row hP6.row (by decide)) ?_
  rw [show (decide ((3 : Int) = 3) && (decide ((2 : Int) = 2) && eqL [1, 1, 2, 4, 4, 5] [1, 1, 2, 4, 4, 5])) = true by decide]
  rintro e w7 ⟨rfl, hb7⟩
  have Hf7 := Lib.hid (Hf6.out.trans (hb7.mono Hf6.out.size))
  clear hb6 hP5 hP6 hb7
  go_wp2
  go_ret
  exact ⟨rfl, Hf7.out⟩

end Go.Proofs.Ytiamooijflaggaa
