/- blend's scaled, Mul, split, joined, and the document's own Mul: what each call answers. -/
import Derived.Test.YtdofmobijkaofaaBase
import Derived.Handy
import Derived.Laws.ShiftsVar
import Derived.Laws.BitsLemmas
namespace Go.Proofs.Ytdofmobijkaofaa
open Go.RowKit

/-- A sum of products over 255, the nearest whole number. -/
def divI (n : Int) : Int := (n + 127) / 255
def mulI (a b : Int) : Int := divI (a * b)

theorem divI_lo {n : Int} (h : 0 ≤ n) : 0 ≤ divI n := by unfold divI; omega
theorem divI_hi {n : Int} (h : n ≤ 65025) : divI n ≤ 255 := by unfold divI; omega
theorem prod_lo {a b : Int} (ha : 0 ≤ a) (hb : 0 ≤ b) : 0 ≤ a * b := Int.mul_nonneg ha hb
theorem prod_hi {a b : Int} (ha : a ≤ 255) (hb0 : 0 ≤ b) (hb : b ≤ 255) : a * b ≤ 65025 := by
  have h1 : a * b ≤ 255 * b := Int.mul_le_mul_of_nonneg_right ha hb0
  omega
theorem mulI_lo {a b : Int} (ha : 0 ≤ a) (hb : 0 ≤ b) : 0 ≤ mulI a b := divI_lo (prod_lo ha hb)
theorem mulI_hi {a b : Int} (ha : a ≤ 255) (hb0 : 0 ≤ b) (hb : b ≤ 255) : mulI a b ≤ 255 := divI_hi (prod_hi ha hb0 hb)

/-- The call answers v, and nothing at all has changed. -/
def Still (P : Program) (f : FuncId) (args : Array Value) (w : World) (v : Value) : Prop :=
  Calls P f args w fun e w' => e = .returned v ∧ w' = w

theorem Still.makes {P : Program} {f : FuncId} {args : Array Value} {w : World} {v : Value} (h : Still P f args w v) : Makes P f args w v :=
  Calls.mono h fun _ _ ⟨he, hw⟩ => ⟨he, by rw [hw]; exact Below.refl _ _⟩

theorem scaled_any (n : Int) (w : World) (h0 : 0 ≤ n) (h1 : n ≤ 65025) : Still Try.prog 13 #[.int .u32 n] w (.int .u8 (divI n)) := by
  unfold Still
  go_enter Try.func13, Try.ntmps13
  go_wp2
  go_ret
  exact ⟨ret_int (by unfold divI; go_arith), rfl⟩

theorem mul_any (a b : Int) (w : World) (ha0 : 0 ≤ a) (ha : a ≤ 255) (hb0 : 0 ≤ b) (hb : b ≤ 255) : Still Try.prog 7 #[.int .u8 a, .int .u8 b] w (.int .u8 (mulI a b)) := by
  unfold Still mulI
  have hp0 := prod_lo ha0 hb0
  have hp1 := prod_hi ha hb0 hb
  have hw : a * b % 4294967296 = a * b := by omega
  go_enter Try.func7, Try.ntmps7
  go_wp2_with fail
  refine Calls.mono (scaled_any _ _ hp0 hp1) ?_
  rintro e w1 ⟨rfl, rfl⟩
  go_wp2
  go_ret
  exact ⟨rfl, rfl⟩

theorem refMul_any (a b : Int) (w : World) (ha0 : 0 ≤ a) (ha : a ≤ 255) (hb0 : 0 ≤ b) (hb : b ≤ 255) : Still Try.prog 8 #[.int .u8 a, .int .u8 b] w (.int .u8 (mulI a b)) := by
  unfold Still mulI
  have hp0 := prod_lo ha0 hb0
  have hp1 := prod_hi ha hb0 hb
  obtain ⟨p, hp⟩ : ∃ p, a * b = p := ⟨_, rfl⟩
  rw [hp] at hp0 hp1 ⊢
  go_enter Try.func8, Try.ntmps8
  go_wp2
  go_ret
  exact ⟨ret_int (by unfold divI; go_arith), rfl⟩

/-- The channel that begins at bit k. -/
def chI (c k : Int) : Int := c / k % 256
abbrev C3 (x y z : Int) : Value := .agg #[.int .u8 x, .int .u8 y, .int .u8 z]

set_option maxHeartbeats 1000000 in
theorem split_any (c : Int) (w : World) : Makes Try.prog 16 #[.int .u32 c] w (C3 (chI c 1) (chI c 256) (chI c 65536)) := by
  unfold Makes
  go_enter Try.func16, Try.ntmps16
  go_wp2_with fail
  refine wp_loop_rounds 4 ?_
  rw [rounds_succ]; go_wp2_with fail
  rw [rounds_succ]; go_wp2_with fail
  rw [rounds_succ]; go_wp2_with fail
  rw [rounds_succ]; go_wp2_with fail
  go_returns
  exact ⟨by simp [chI], Below.al2 _ _ _⟩

theorem or_two (x y : Int) (hx0 : 0 ≤ x) (hx : x ≤ 255) (hy0 : 0 ≤ y) (hy : y ≤ 255) : bits .or .u32 x (y * 256) = x + y * 256 := by
  have h := bits_join .u32 32 (by decide) (fun n h0 h1 => by rw [IntKind.wrap_u32]; omega) 8 (y * 256) x (by omega) (by omega) (by omega) hx0 (by omega) (by omega)
  have hc : bits .or .u32 x (y * 256) = bits .or .u32 (y * 256) x := by
    simp only [bits, BitVec.or_comm]
  rw [hc, h]; omega
theorem or_three (x y : Int) (hx0 : 0 ≤ x) (hx : x ≤ 65535) (hy0 : 0 ≤ y) (hy : y ≤ 255) : bits .or .u32 x (y * 65536) = x + y * 65536 := by
  have h := bits_join .u32 32 (by decide) (fun n h0 h1 => by rw [IntKind.wrap_u32]; omega) 16 (y * 65536) x (by omega) (by omega) (by omega) hx0 (by omega) (by omega)
  have hc : bits .or .u32 x (y * 65536) = bits .or .u32 (y * 65536) x := by
    simp only [bits, BitVec.or_comm]
  rw [hc, h]; omega
theorem or_none (x : Int) (hx0 : 0 ≤ x) (hx : x ≤ 255) : bits .or .u32 0 x = x := by
  have h := bits_join .u32 32 (by decide) (fun n h0 h1 => by rw [IntKind.wrap_u32]; omega) 8 0 x (by omega) (by omega) (by omega) hx0 (by omega) (by omega)
  rw [h]; omega

set_option maxHeartbeats 1000000 in
theorem joined_any (x y z : Int) (w : World) (hx0 : 0 ≤ x) (hx : x ≤ 255) (hy0 : 0 ≤ y) (hy : y ≤ 255) (hz0 : 0 ≤ z) (hz : z ≤ 255) :
    Makes Try.prog 17 #[C3 x y z] w (.int .u32 (x + y * 256 + z * 65536)) := by
  unfold Makes
  have h1 := or_none x hx0 hx
  have h2 := or_two x y hx0 hx hy0 hy
  have h3 := or_three (x + y * 256) z (by omega) (by omega) hz0 hz
  have i0 : ∀ w : World, (Instr.index 34 (.agg #[.int .u8 x, .int .u8 y, .int .u8 z]) (.int .i64 0)).run Try.prog w = .ok (.int .u8 x) w := fun _ => by kernel_rfl
  have i1 : ∀ w : World, (Instr.index 34 (.agg #[.int .u8 x, .int .u8 y, .int .u8 z]) (.int .i64 1)).run Try.prog w = .ok (.int .u8 y) w := fun _ => by kernel_rfl
  have i2 : ∀ w : World, (Instr.index 34 (.agg #[.int .u8 x, .int .u8 y, .int .u8 z]) (.int .i64 2)).run Try.prog w = .ok (.int .u8 z) w := fun _ => by kernel_rfl
  have hyw : y * 256 % 4294967296 = y * 256 := by omega
  have hzw : z * 65536 % 4294967296 = z * 65536 := by omega
  go_enter Try.func17, Try.ntmps17
  go_wp2_with fail
  refine wp_loop_rounds 4 ?_
  rw [rounds_succ]; go_wp2_with fail
  rw [rounds_succ]; go_wp2_with fail
  rw [rounds_succ]; go_wp2_with fail
  rw [rounds_succ]; go_wp2_with fail
  go_ret
  exact ⟨rfl, Below.al1 _ _⟩

/-- A channel d, s over it, seen at alpha a. -/
def mixI (d s a : Int) : Int := divI (s * a + d * (255 - a))

theorem mix_lo {d s a : Int} (hd : 0 ≤ d) (hs : 0 ≤ s) (ha0 : 0 ≤ a) (ha : a ≤ 255) : 0 ≤ s * a + d * (255 - a) := by
  have h1 := prod_lo hs ha0
  have h2 := prod_lo hd (show 0 ≤ 255 - a by omega)
  omega
theorem mix_hi {d s a : Int} (hd : d ≤ 255) (hs : s ≤ 255) (ha0 : 0 ≤ a) (ha : a ≤ 255) : s * a + d * (255 - a) ≤ 65025 := by
  have h1 : s * a ≤ 255 * a := Int.mul_le_mul_of_nonneg_right hs ha0
  have h2 : d * (255 - a) ≤ 255 * (255 - a) := Int.mul_le_mul_of_nonneg_right hd (by omega)
  omega
theorem mixI_lo {d s a : Int} (hd : 0 ≤ d) (hs : 0 ≤ s) (ha0 : 0 ≤ a) (ha : a ≤ 255) : 0 ≤ mixI d s a := divI_lo (mix_lo hd hs ha0 ha)
theorem mixI_hi {d s a : Int} (hd : d ≤ 255) (hs : s ≤ 255) (ha0 : 0 ≤ a) (ha : a ≤ 255) : mixI d s a ≤ 255 := divI_hi (mix_hi hd hs ha0 ha)
theorem chI_lo (c k : Int) : 0 ≤ chI c k := by unfold chI; omega
theorem chI_hi (c k : Int) : chI c k ≤ 255 := by unfold chI; omega

def overI (d s a : Int) : Int := mixI (chI d 1) (chI s 1) a + mixI (chI d 256) (chI s 256) a * 256 + mixI (chI d 65536) (chI s 65536) a * 65536

end Go.Proofs.Ytdofmobijkaofaa
