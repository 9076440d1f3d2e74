/- The walk of the statement BlendBetween. -/
import Derived.Test.YtdofmobijkaofaaLawBTwice
import Derived.BigQuiet
namespace Go.Proofs.Ytdofmobijkaofaa
open Go.RowKit

theorem shrAll (x : Int) (h0 : 0 ≤ x) (h1 : x < 4294967296) : bits .and .u32 x 255 = chI x 1 ∧ bits .and .u32 (x / 256) 255 = chI x 256 ∧ bits .and .u32 (x / 65536) 255 = chI x 65536 := by
  refine ⟨?_, ?_, ?_⟩
  · rw [mask8 _ (by omega) (by omega)]; simp [chI]
  · rw [mask8 _ (by omega) (by omega)]; rfl
  · rw [mask8 _ (by omega) (by omega)]; rfl

/-- A channel of two blendings, the second at no smaller an alpha. -/
structure Mid (p q u v : Int) : Prop where
  ul : min p q ≤ u
  uh : u ≤ max p q
  vl : min p q ≤ v
  vh : v ≤ max p q
  up : p ≤ q → u ≤ v
  down : q ≤ p → v ≤ u

theorem mid_of (p q : Int) {a b : Int} (ha0 : 0 ≤ a) (ha : a ≤ 255) (hb0 : 0 ≤ b) (hb : b ≤ 255) (hab : a ≤ b) : Mid p q (mixI p q a) (mixI p q b) :=
  ⟨mixI_ge ha0 ha, mixI_le ha0 ha, mixI_ge hb0 hb, mixI_le hb0 hb, fun h => mixI_up h hab, fun h => mixI_down h hab⟩

set_option maxRecDepth 100000 in
set_option maxHeartbeats 4000000 in
theorem between_any (d s a b : Int) (w : World) (hd : 0 ≤ d ∧ d < 4294967296) (hs : 0 ≤ s ∧ s < 4294967296) (ha : 0 ≤ a ∧ a ≤ 255) (hb : 0 ≤ b ∧ b ≤ 255) :
    Makes Try.prog 4 #[.int .u32 d, .int .u32 s, .int .u8 a, .int .u8 b] w (.bool true) := by
  unfold Makes
  obtain ⟨ha0, ha⟩ := ha
  obtain ⟨hb0, hb⟩ := hb
  obtain ⟨hd0, hd⟩ := hd
  obtain ⟨hs0, hs⟩ := hs
  have cd := mask24 d hd0 hd
  have cs := mask24 s hs0 hs
  obtain ⟨m, hm⟩ : ∃ m, min a b = m := ⟨_, rfl⟩
  obtain ⟨M, hM⟩ : ∃ M, max a b = M := ⟨_, rfl⟩
  obtain ⟨x, hx⟩ : ∃ x, overI d s m = x := ⟨_, rfl⟩
  obtain ⟨y, hy⟩ : ∃ y, overI d s M = y := ⟨_, rfl⟩
  obtain ⟨z, hz⟩ : ∃ z, mulI a b = z := ⟨_, rfl⟩
  have hm0 : 0 ≤ m := by omega
  have hm1 : m ≤ 255 := by omega
  have hM0 : 0 ≤ M := by omega
  have hM1 : M ≤ 255 := by omega
  have hmM : m ≤ M := by omega
  have px := overI_parts d s hm0 hm1
  have py := overI_parts d s hM0 hM1
  rw [hx] at px
  rw [hy] at py
  obtain ⟨⟨px0, px1⟩, pxa, pxb, pxc⟩ := px
  obtain ⟨⟨py0, py1⟩, pya, pyb, pyc⟩ := py
  have Mida : Mid (chI d 1) (chI s 1) (chI x 1) (chI y 1) := by rw [pxa, pya]; exact mid_of _ _ hm0 hm1 hM0 hM1 hmM
  have Midb : Mid (chI d 256) (chI s 256) (chI x 256) (chI y 256) := by rw [pxb, pyb]; exact mid_of _ _ hm0 hm1 hM0 hM1 hmM
  have Midc : Mid (chI d 65536) (chI s 65536) (chI x 65536) (chI y 65536) := by rw [pxc, pyc]; exact mid_of _ _ hm0 hm1 hM0 hM1 hmM
  obtain ⟨bd0, bd8, bd16⟩ := shrAll d hd0 hd
  obtain ⟨bs0, bs8, bs16⟩ := shrAll s hs0 hs
  obtain ⟨bx0, bx8, bx16⟩ := shrAll x px0 (by omega)
  obtain ⟨by0, by8, by16⟩ := shrAll y py0 (by omega)
  have hzm : z ≤ m := by have h := mulI_le_min ha0 ha hb0 hb; rw [hz, hm] at h; exact h
  have HK1 := Lib.hid (fun w => over_eq w (overI_zero d s) (by decide) (by decide))
  have HK2 := Lib.hid (fun w => over_eq w (overI_all d s) (by decide) (by decide))
  have HK3 := Lib.hid (fun w => over_eq w (overI_self d a) ha0 ha)
  have HK4 := Lib.hid (fun w => mulStill a 255 w ha0 ha (by decide) (by decide) a (mulI_all a))
  have HK5 := Lib.hid (fun w => mulStill a 0 w ha0 ha (by decide) (by decide) 0 (mulI_none a))
  have HK6 := Lib.hid (fun w => mulStill a b w ha0 ha hb0 hb z hz)
  have HK7 := Lib.hid (fun w => mulStill b a w hb0 hb ha0 ha z (by rw [mulI_comm]; exact hz))
  have HK8 := Lib.hid (fun w => over_eq w hx hm0 hm1)
  have HK9 := Lib.hid (fun w => over_eq w hy hM0 hM1)
  have hmin := min_keep
  have hmax := max_keep
  have HMa := Lib.hid Mida
  have HMb := Lib.hid Midb
  have HMc := Lib.hid Midc
  have HH := Lib.hid (And.intro hm hM)
  clear hx hy hz pxa pxb pxc pya pyb pyc Mida Midb Midc
  generalize chI d 1 = pa at *
  generalize chI s 1 = qa at *
  generalize chI x 1 = ua at *
  generalize chI y 1 = va at *
  generalize chI d 256 = pb at *
  generalize chI s 256 = qb at *
  generalize chI x 256 = ub at *
  generalize chI y 256 = vb at *
  generalize chI d 65536 = pc at *
  generalize chI s 65536 = qc at *
  generalize chI x 65536 = uc at *
  generalize chI y 65536 = vc at *
  generalize d % 16777216 = dm at *
  generalize s % 16777216 = sm at *
  go_enter Try.func4, Try.ntmps4
  go_wp2_with fail
  refine Calls.mono (HK1.out _) ?_
  rintro e w1 ⟨rfl, hb1⟩
  go_wp2_with fail
  refine Calls.mono (HK2.out _) ?_
  rintro e w2 ⟨rfl, hb2⟩
  go_wp2_with fail
  refine Calls.mono (HK3.out _) ?_
  rintro e w3 ⟨rfl, hb3⟩
  have hbw := Below.thn (Below.thn hb1 hb2) hb3
  clear hb1 hb2 hb3
  go_wp2_with fail
  refine Calls.mono (HK4.out _) ?_
  rintro e w4 ⟨rfl, rfl⟩
  go_wp2_with fail
  refine Calls.mono (HK5.out _) ?_
  rintro e w4 ⟨rfl, rfl⟩
  go_wp2_with fail
  refine Calls.mono (HK6.out _) ?_
  rintro e w4 ⟨rfl, rfl⟩
  go_wp2_with fail
  refine Calls.mono (HK7.out _) ?_
  rintro e w4 ⟨rfl, rfl⟩
  go_wp2_with fail
  refine Calls.mono (HK6.out _) ?_
  rintro e w4 ⟨rfl, rfl⟩
  go_wp2_with fail
  refine Calls.mono (HK8.out _) ?_
  rintro e w5 ⟨rfl, hb5⟩
  go_wp2_with fail
  refine Calls.mono (HK9.out _) ?_
  rintro e w6 ⟨rfl, hb6⟩
  have hbw2 := Below.thn (Below.thn hbw hb5) hb6
  clear hbw hb5 hb6
  go_upto_region 8 with fail
  clear cd cs hm hM hzm px0 px1 py0 py1
  go_wp2_with fail
  refine wp_loop_rounds 4 ?_
  rw [rounds_succ]; go_upto_region 11 with fail
  go_quiet (fail)
  go_upto_region 12 with fail
  go_quiet (fail)
  go_upto_region 13 with fail
  go_cut [149] (fun s wx => s = .bool false ∧ Below w6.heap.size w6 wx)
  case first =>
    obtain ⟨f1, f2, f3, f4, f5, f6⟩ := HMa.out
    by_cases g1 : pa ≤ qa
    · have g3 := f5 g1
      by_cases g2 : qa ≤ pa
      · have g4 := f6 g2
        clear f5 f6
        go_wp2_with fail
        go_meet
        exact ⟨by simp; omega, Below.drewN' (Below.refl _ _) _⟩
      · clear f5 f6
        go_wp2_with fail
        go_meet
        exact ⟨by simp; omega, Below.drewN' (Below.refl _ _) _⟩
    · have g3 := f6 (by omega)
      clear f5 f6
      go_wp2_with fail
      go_meet
      exact ⟨by simp; omega, Below.drewN' (Below.refl _ _) _⟩
  case rest =>
  obtain ⟨rfl, hb7⟩ := hcut
  obtain ⟨w7, hw7⟩ : ∃ w7, w7 = wc := ⟨_, rfl⟩
  subst hw7
  have hbw7 := Below.thn hbw2 hb7
  clear hb7 hbw2
  go_wp2_with fail
  rw [rounds_succ]; go_upto_region 11 with fail
  go_quiet (fail)
  go_upto_region 12 with fail
  go_quiet (fail)
  go_upto_region 13 with fail
  go_cut [149] (fun s wx => s = .bool false ∧ Below w7.heap.size w7 wx)
  case first =>
    obtain ⟨f1, f2, f3, f4, f5, f6⟩ := HMb.out
    by_cases g1 : pb ≤ qb
    · have g3 := f5 g1
      by_cases g2 : qb ≤ pb
      · have g4 := f6 g2
        clear f5 f6
        go_wp2_with fail
        go_meet
        exact ⟨by simp; omega, Below.drewN' (Below.refl _ _) _⟩
      · clear f5 f6
        go_wp2_with fail
        go_meet
        exact ⟨by simp; omega, Below.drewN' (Below.refl _ _) _⟩
    · have g3 := f6 (by omega)
      clear f5 f6
      go_wp2_with fail
      go_meet
      exact ⟨by simp; omega, Below.drewN' (Below.refl _ _) _⟩
  case rest =>
  obtain ⟨rfl, hb8⟩ := hcut
  obtain ⟨w8, hw8⟩ : ∃ w7, w7 = wc := ⟨_, rfl⟩
  subst hw8
  have hbw8 := Below.thn hbw7 hb8
  clear hb8 hbw7
  go_wp2_with fail
  rw [rounds_succ]; go_upto_region 11 with fail
  go_quiet (fail)
  go_upto_region 12 with fail
  go_quiet (fail)
  go_upto_region 13 with fail
  go_cut [149] (fun s wx => s = .bool false ∧ Below w8.heap.size w8 wx)
  case first =>
    obtain ⟨f1, f2, f3, f4, f5, f6⟩ := HMc.out
    by_cases g1 : pc ≤ qc
    · have g3 := f5 g1
      by_cases g2 : qc ≤ pc
      · have g4 := f6 g2
        clear f5 f6
        go_wp2_with fail
        go_meet
        exact ⟨by simp; omega, Below.drewN' (Below.refl _ _) _⟩
      · clear f5 f6
        go_wp2_with fail
        go_meet
        exact ⟨by simp; omega, Below.drewN' (Below.refl _ _) _⟩
    · have g3 := f6 (by omega)
      clear f5 f6
      go_wp2_with fail
      go_meet
      exact ⟨by simp; omega, Below.drewN' (Below.refl _ _) _⟩
  case rest =>
  obtain ⟨rfl, hb9⟩ := hcut
  obtain ⟨w9, hw9⟩ : ∃ w7, w7 = wc := ⟨_, rfl⟩
  subst hw9
  have hbw9 := Below.thn hbw8 hb9
  clear hb9 hbw8
  go_wp2_with fail
  rw [rounds_succ]; go_wp2_with fail
  refine Calls.mono (wakes_any _) ?_
  rintro e w10 ⟨rfl, hb10⟩
  go_wp2
  go_ret
  exact ⟨rfl, Below.thn hbw9 hb10⟩

end Go.Proofs.Ytdofmobijkaofaa
