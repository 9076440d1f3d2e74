/- The walk of the statement BlendTwice. -/
import Derived.Test.YtdofmobijkaofaaBlendC
import Derived.Deep.DeepCutAuto
namespace Go.Proofs.Ytdofmobijkaofaa
open Go.RowKit

theorem max_keep (ts : Array TypeId) (t : TypeId) (k k' : IntKind) (x y : Int) (w : World) : (Builtin.max_ ts t #[.int k x, .int k' y]).run Try.prog w = .ok (.int k (max x y)) w := by
  rw [run_max_int2]; congr 2; split <;> omega
theorem min_keep (ts : Array TypeId) (t : TypeId) (k k' : IntKind) (x y : Int) (w : World) : (Builtin.min_ ts t #[.int k x, .int k' y]).run Try.prog w = .ok (.int k (min x y)) w := by
  rw [run_min_int2]; congr 2; split <;> omega

theorem mulStill (a b : Int) (w : World) (ha0 : 0 ≤ a) (ha : a ≤ 255) (hb0 : 0 ≤ b) (hb : b ≤ 255) (v : Int) (h : mulI a b = v) : Still Try.prog 7 #[.int .u8 a, .int .u8 b] w (.int .u8 v) := by
  rw [← h]; exact mul_any a b w ha0 ha hb0 hb

set_option maxRecDepth 100000 in
set_option maxHeartbeats 2000000 in
theorem twice_any (a b c : Int) (w : World) (ha : 0 ≤ a ∧ a ≤ 255) (hb : 0 ≤ b ∧ b ≤ 255) (hc : 0 ≤ c ∧ c ≤ 255) : Makes Try.prog 6 #[.int .u8 a, .int .u8 b, .int .u8 c] w (.bool true) := by
  unfold Makes
  obtain ⟨ha0, ha⟩ := ha
  obtain ⟨hb0, hb⟩ := hb
  obtain ⟨hc0, hc⟩ := hc
  obtain ⟨x, hx⟩ : ∃ x, mulI a b = x := ⟨_, rfl⟩
  obtain ⟨y, hy⟩ : ∃ y, mulI a c = y := ⟨_, rfl⟩
  obtain ⟨z, hz⟩ : ∃ z, mulI x c = z := ⟨_, rfl⟩
  obtain ⟨t, ht⟩ : ∃ t, mulI a a = t := ⟨_, rfl⟩
  have hx0 : 0 ≤ x := hx ▸ mulI_lo ha0 hb0
  have hx1 : x ≤ 255 := hx ▸ mulI_hi ha hb0 hb
  have hzm : z ≤ min x c := hz ▸ mulI_le_min hx0 hx1 hc0 hc
  have hz1 : z ≤ x := by omega
  have hz2 : z ≤ c := by omega
  have hta : t ≤ a := ht ▸ mulI_le ha0 ha
  have h1 : b ≤ c → x ≤ y := fun h => by rw [← hx, ← hy]; exact mulI_mono h ha0
  have h2 : c ≤ b → y ≤ x := fun h => by rw [← hx, ← hy]; exact mulI_mono h ha0
  have h3 : a = 255 → x = b := fun h => by rw [← hx, h, mulI_comm, mulI_all]
  have K1 := fun w => mulStill a b w ha0 ha hb0 hb x hx
  have K2 := fun w => mulStill a c w ha0 ha hc0 hc y hy
  have K3 := fun w => mulStill x c w hx0 hx1 hc0 hc z hz
  have K4 := fun w => mulStill a a w ha0 ha ha0 ha t ht
  have HK1 := Lib.hid K1
  have HK2 := Lib.hid K2
  have HK3 := Lib.hid K3
  have HK4 := Lib.hid K4
  have Hh := Lib.hid (And.intro h1 (And.intro h2 h3))
  clear K1 K2 K3 K4 h1 h2 h3 hx hy hz ht hzm
  go_enter Try.func6, Try.ntmps6
  go_wp2_with fail
  refine Calls.mono (HK1.out _) ?_
  rintro e w1 ⟨rfl, rfl⟩
  go_wp2_with fail
  refine Calls.mono (HK2.out _) ?_
  rintro e w1 ⟨rfl, rfl⟩
  go_upto_region 2 with fail
  go_cut [32] (fun s wx => s = .bool false ∧ wx = w1)
  case first =>
    by_cases h1 : b ≤ c
    · have := Hh.out.1 h1
      by_cases h2 : c ≤ b
      · have := Hh.out.2.1 h2
        go_wp2_with fail
        go_meet
        exact ⟨by simp; omega, rfl⟩
      · go_wp2_with fail
        go_meet
        exact ⟨by simp; omega, rfl⟩
    · have := Hh.out.2.1 (by omega)
      go_wp2_with fail
      go_meet
      exact ⟨by simp; omega, rfl⟩
  case rest =>
    obtain ⟨rfl, rfl⟩ := hcut
    go_wp2_with fail
    refine Calls.mono (HK3.out _) ?_
    rintro e w1 ⟨rfl, rfl⟩
    have hmin := min_keep
    have hzm : z ≤ min x c := by omega
    go_wp2_with fail
    refine Calls.mono (HK4.out _) ?_
    rintro e w1 ⟨rfl, rfl⟩
    have h3 := Hh.out.2.2
    by_cases ha5 : a = 255
    · have hxb := h3 ha5
      go_wp2_with fail
      refine Calls.mono (mulStill 255 b _ (by decide) (by decide) hb0 hb b (by rw [mulI_comm, mulI_all])) ?_
      rintro e w1 ⟨rfl, rfl⟩
      go_wp2_with fail
      refine Calls.mono (wakes_any _) ?_
      rintro e w1 ⟨rfl, hb1⟩
      go_wp2
      go_ret
      exact ⟨rfl, hb1⟩
    · go_wp2_with fail
      refine Calls.mono (wakes_any _) ?_
      rintro e w1 ⟨rfl, hb1⟩
      go_wp2
      go_ret
      exact ⟨rfl, hb1⟩

end Go.Proofs.Ytdofmobijkaofaa
