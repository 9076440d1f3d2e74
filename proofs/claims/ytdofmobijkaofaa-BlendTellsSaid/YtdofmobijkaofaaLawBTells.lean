/- The walk of the statement BlendTells. -/
import Derived.Test.YtdofmobijkaofaaBlendC
namespace Go.Proofs.Ytdofmobijkaofaa
open Go.RowKit

set_option maxRecDepth 100000 in
set_option maxHeartbeats 2000000 in
theorem btells_any (d s a b : Int) (w : World) (hd : 0 ≤ d ∧ d < 4294967296) (hs : 0 ≤ s ∧ s < 4294967296) (ha : 0 ≤ a ∧ a ≤ 255) (hb : 0 ≤ b ∧ b ≤ 255) :
    Makes Try.prog 3 #[.int .u32 d, .int .u32 s, .int .u8 a, .int .u8 b] w (.bool true) := by
  unfold Makes
  obtain ⟨ha0, ha⟩ := ha
  obtain ⟨hb0, hb⟩ := hb
  obtain ⟨hd0, hd⟩ := hd
  obtain ⟨hs0, hs⟩ := hs
  obtain ⟨x, hx⟩ : ∃ x, mulI a b = x := ⟨_, rfl⟩
  obtain ⟨y, hy⟩ : ∃ y, overI d s a = y := ⟨_, rfl⟩
  have HK1 := Lib.hid (fun w => mul_eq w hx ha0 ha hb0 hb)
  have HK2 := Lib.hid (fun w => refMul_eq w hx ha0 ha hb0 hb)
  have HK3 := Lib.hid (fun w => over_eq w hy ha0 ha)
  have HK4 := Lib.hid (fun w => refOver_any d s a w hd0 hd hs0 hs ha0 ha)
  rw [hy] at HK4
  clear hx hy
  go_enter Try.func3, Try.ntmps3
  go_wp2_with fail
  refine Calls.mono (HK1.out _) ?_
  rintro e w1 ⟨rfl, hb1⟩
  go_wp2_with fail
  refine Calls.mono (HK2.out _) ?_
  rintro e w2 ⟨rfl, hb2⟩
  go_wp2_with fail
  refine Calls.mono (HK3.out _) ?_
  rintro e w3 ⟨rfl, hb3⟩
  go_wp2_with fail
  refine Calls.mono (HK4.out _) ?_
  rintro e w4 ⟨rfl, hb4⟩
  go_wp2_with fail
  refine Calls.mono (wakes_any _) ?_
  rintro e w5 ⟨rfl, hb5⟩
  go_wp2
  go_ret
  exact ⟨rfl, Below.thn (Below.thn (Below.thn (Below.thn hb1 hb2) hb3) hb4) hb5⟩

end Go.Proofs.Ytdofmobijkaofaa
