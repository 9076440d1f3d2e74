/- The walk of the statement BlendRises. -/
import Derived.Test.YtdofmobijkaofaaBlendC
import Derived.Deep.DeepCutAuto
import Derived.BigQuiet
namespace Go.Proofs.Ytdofmobijkaofaa
open Go.RowKit

/-- Two colours' channel at bit k, x there no brighter than y. -/
theorem shr8 (x : Int) (h0 : 0 ≤ x) (h1 : x ≤ 16777215) : bits .and .u32 x 255 = chI x 1 ∧ bits .and .u32 (x / 256) 255 = chI x 256 ∧ bits .and .u32 (x / 65536) 255 = chI x 65536 := by
  refine ⟨?_, ?_, ?_⟩
  · rw [mask8 _ (by omega) (by omega)]; simp [chI]
  · rw [mask8 _ (by omega) (by omega)]; rfl
  · rw [mask8 _ (by omega) (by omega)]; rfl

set_option maxRecDepth 100000 in
set_option maxHeartbeats 4000000 in
theorem rises0_any (d s a m k : Int) (w : World) (hd : 0 ≤ d ∧ d < 4294967296) (hs : 0 ≤ s ∧ s < 4294967296) (ha : 0 ≤ a ∧ a ≤ 255) (hm : 0 ≤ m ∧ m ≤ 255) (hk : 0 ≤ k ∧ k ≤ 255) (hk3 : k % 3 = 0) :
    Makes Try.prog 5 #[.int .u32 d, .int .u32 s, .int .u8 a, .int .u8 m, .int .u8 k] w (.bool true) := by
  unfold Makes
  obtain ⟨ha0, ha⟩ := ha
  obtain ⟨hm0, hm⟩ := hm
  obtain ⟨hd0, hd⟩ := hd
  obtain ⟨hs0, hs⟩ := hs
  obtain ⟨hk0, hk⟩ := hk
  obtain ⟨su, hsu⟩ : ∃ u, putI s (moreI (chI s 1) m) 0 4294967040 = u := ⟨_, rfl⟩
  obtain ⟨du, hdu⟩ : ∃ u, putI d (moreI (chI d 1) m) 0 4294967040 = u := ⟨_, rfl⟩
  have hs1 := putI_ch (M := 4294967040) (s := 0) hs0 (moreI_lo (chI_lo s 1) hm0) (moreI_hi _ _) (by decide) (by decide)
  have hd1 := putI_ch (M := 4294967040) (s := 0) hd0 (moreI_lo (chI_lo d 1) hm0) (moreI_hi _ _) (by decide) (by decide)
  rw [hsu] at hs1
  rw [hdu] at hd1
  have s0 := hs1 0 (by decide)
  have s8 := hs1 8 (by decide)
  have s16 := hs1 16 (by decide)
  have d0 := hd1 0 (by decide)
  have d8 := hd1 8 (by decide)
  have d16 := hd1 16 (by decide)
  simp at s0 s8 s16 d0 d8 d16
  obtain ⟨x, hx⟩ : ∃ x, overI d s a = x := ⟨_, rfl⟩
  obtain ⟨y, hy⟩ : ∃ y, overI d su a = y := ⟨_, rfl⟩
  obtain ⟨z, hz⟩ : ∃ z, overI du s a = z := ⟨_, rfl⟩
  have px := overI_parts d s ha0 ha
  have py := overI_parts d su ha0 ha
  have pz := overI_parts du s ha0 ha
  rw [hx] at px
  rw [hy, s0, s8, s16] at py
  rw [hz, d0, d8, d16] at pz
  obtain ⟨⟨px0, px1⟩, pxa, pxb, pxc⟩ := px
  obtain ⟨⟨py0, py1⟩, pya, pyb, pyc⟩ := py
  obtain ⟨⟨pz0, pz1⟩, pza, pzb, pzc⟩ := pz
  have g1 : chI x 1 ≤ chI y 1 := by
    rw [pxa, pya]; exact mixI_over (moreI_ge (chI_hi _ _) hm0) ha0
  have g2 : chI x 1 ≤ chI z 1 := by
    rw [pxa, pza]; exact mixI_behind (moreI_ge (chI_hi _ _) hm0) ha
  have e1 : chI y 256 = chI x 256 := by rw [pxb, pyb]
  have e2 : chI y 65536 = chI x 65536 := by rw [pxc, pyc]
  have e3 : chI z 256 = chI x 256 := by rw [pxb, pzb]
  have e4 : chI z 65536 = chI x 65536 := by rw [pxc, pzc]
  obtain ⟨bx0, bx8, bx16⟩ := shr8 x px0 px1
  obtain ⟨by0, by8, by16⟩ := shr8 y py0 py1
  obtain ⟨bz0, bz8, bz16⟩ := shr8 z pz0 pz1
  rw [e1] at by8
  rw [e2] at by16
  rw [e3] at bz8
  rw [e4] at bz16
  have HK1 := Lib.hid (fun w => over_eq w hx ha0 ha)
  have HK2 := Lib.hid (fun w => over_eq w hy ha0 ha)
  have HK3 := Lib.hid (fun w => over_eq w hz ha0 ha)
  have HU1 := Lib.hid (fun w => up0_any s m w hs0 hs hm0 hm)
  have HU2 := Lib.hid (fun w => up0_any d m w hd0 hd hm0 hm)
  rw [hsu] at HU1
  rw [hdu] at HU2
  clear hsu hdu hs1 hd1 s0 s8 s16 d0 d8 d16 hx hy hz pxa pxb pxc pya pyb pyc pza pzb pzc e1 e2 e3 e4
  generalize chI x 1 = xk at *
  generalize chI y 1 = yk at *
  generalize chI z 1 = zk at *
  generalize chI x 256 = xl at *
  generalize chI x 65536 = xm at *
  have hkm : k % 3 * 8 = 0 := by omega
  go_enter Try.func5, Try.ntmps5
  go_wp2_with fail
  refine Calls.mono (HK1.out _) ?_
  rintro e w1 ⟨rfl, hb1⟩
  go_wp2_with fail
  refine Calls.mono (HU1.out _) ?_
  rintro e w2 ⟨rfl, hb2⟩
  go_wp2_with fail
  refine Calls.mono (HK2.out _) ?_
  rintro e w3 ⟨rfl, hb3⟩
  go_wp2_with fail
  refine Calls.mono (HU2.out _) ?_
  rintro e w4 ⟨rfl, hb4⟩
  go_wp2_with fail
  refine Calls.mono (HK3.out _) ?_
  rintro e w5 ⟨rfl, hb5⟩
  have hbw := Below.thn (Below.thn (Below.thn (Below.thn hb1 hb2) hb3) hb4) hb5
  clear hb1 hb2 hb3 hb4 hb5
  go_wp2_with fail
  refine wp_loop_rounds 4 ?_
  rw [rounds_succ]; go_upto_region 6 with fail
  go_quiet (fail)
  go_wp2_with fail
  rw [rounds_succ]; go_upto_region 6 with fail
  go_quiet (fail)
  go_wp2_with fail
  rw [rounds_succ]; go_upto_region 6 with fail
  go_quiet (fail)
  go_wp2_with fail
  rw [rounds_succ]; go_wp2_with fail
  refine Calls.mono (wakes_any _) ?_
  rintro e w9 ⟨rfl, hb9⟩
  go_wp2
  go_ret
  exact ⟨rfl, Below.thn hbw (Below.thn (Below.drewN' (Below.refl _ _) _) hb9)⟩

set_option maxRecDepth 100000 in
set_option maxHeartbeats 4000000 in
theorem rises8_any (d s a m k : Int) (w : World) (hd : 0 ≤ d ∧ d < 4294967296) (hs : 0 ≤ s ∧ s < 4294967296) (ha : 0 ≤ a ∧ a ≤ 255) (hm : 0 ≤ m ∧ m ≤ 255) (hk : 0 ≤ k ∧ k ≤ 255) (hk3 : k % 3 = 1) :
    Makes Try.prog 5 #[.int .u32 d, .int .u32 s, .int .u8 a, .int .u8 m, .int .u8 k] w (.bool true) := by
  unfold Makes
  obtain ⟨ha0, ha⟩ := ha
  obtain ⟨hm0, hm⟩ := hm
  obtain ⟨hd0, hd⟩ := hd
  obtain ⟨hs0, hs⟩ := hs
  obtain ⟨hk0, hk⟩ := hk
  obtain ⟨su, hsu⟩ : ∃ u, putI s (moreI (chI s 256) m) 8 4294902015 = u := ⟨_, rfl⟩
  obtain ⟨du, hdu⟩ : ∃ u, putI d (moreI (chI d 256) m) 8 4294902015 = u := ⟨_, rfl⟩
  have hs1 := putI_ch (M := 4294902015) (s := 8) hs0 (moreI_lo (chI_lo s 256) hm0) (moreI_hi _ _) (by decide) t16
  have hd1 := putI_ch (M := 4294902015) (s := 8) hd0 (moreI_lo (chI_lo d 256) hm0) (moreI_hi _ _) (by decide) t16
  rw [hsu] at hs1
  rw [hdu] at hd1
  have s0 := hs1 0 (by decide)
  have s8 := hs1 8 (by decide)
  have s16 := hs1 16 (by decide)
  have d0 := hd1 0 (by decide)
  have d8 := hd1 8 (by decide)
  have d16 := hd1 16 (by decide)
  simp at s0 s8 s16 d0 d8 d16
  obtain ⟨x, hx⟩ : ∃ x, overI d s a = x := ⟨_, rfl⟩
  obtain ⟨y, hy⟩ : ∃ y, overI d su a = y := ⟨_, rfl⟩
  obtain ⟨z, hz⟩ : ∃ z, overI du s a = z := ⟨_, rfl⟩
  have px := overI_parts d s ha0 ha
  have py := overI_parts d su ha0 ha
  have pz := overI_parts du s ha0 ha
  rw [hx] at px
  rw [hy, s0, s8, s16] at py
  rw [hz, d0, d8, d16] at pz
  obtain ⟨⟨px0, px1⟩, pxa, pxb, pxc⟩ := px
  obtain ⟨⟨py0, py1⟩, pya, pyb, pyc⟩ := py
  obtain ⟨⟨pz0, pz1⟩, pza, pzb, pzc⟩ := pz
  have g1 : chI x 256 ≤ chI y 256 := by
    rw [pxb, pyb]; exact mixI_over (moreI_ge (chI_hi _ _) hm0) ha0
  have g2 : chI x 256 ≤ chI z 256 := by
    rw [pxb, pzb]; exact mixI_behind (moreI_ge (chI_hi _ _) hm0) ha
  have e1 : chI y 1 = chI x 1 := by rw [pxa, pya]
  have e2 : chI y 65536 = chI x 65536 := by rw [pxc, pyc]
  have e3 : chI z 1 = chI x 1 := by rw [pxa, pza]
  have e4 : chI z 65536 = chI x 65536 := by rw [pxc, pzc]
  obtain ⟨bx0, bx8, bx16⟩ := shr8 x px0 px1
  obtain ⟨by0, by8, by16⟩ := shr8 y py0 py1
  obtain ⟨bz0, bz8, bz16⟩ := shr8 z pz0 pz1
  rw [e1] at by0
  rw [e2] at by16
  rw [e3] at bz0
  rw [e4] at bz16
  have HK1 := Lib.hid (fun w => over_eq w hx ha0 ha)
  have HK2 := Lib.hid (fun w => over_eq w hy ha0 ha)
  have HK3 := Lib.hid (fun w => over_eq w hz ha0 ha)
  have HU1 := Lib.hid (fun w => up8_any s m w hs0 hs hm0 hm)
  have HU2 := Lib.hid (fun w => up8_any d m w hd0 hd hm0 hm)
  rw [hsu] at HU1
  rw [hdu] at HU2
  clear hsu hdu hs1 hd1 s0 s8 s16 d0 d8 d16 hx hy hz pxa pxb pxc pya pyb pyc pza pzb pzc e1 e2 e3 e4
  generalize chI x 256 = xk at *
  generalize chI y 256 = yk at *
  generalize chI z 256 = zk at *
  generalize chI x 1 = xl at *
  generalize chI x 65536 = xm at *
  have hkm : k % 3 * 8 = 8 := by omega
  go_enter Try.func5, Try.ntmps5
  go_wp2_with fail
  refine Calls.mono (HK1.out _) ?_
  rintro e w1 ⟨rfl, hb1⟩
  go_wp2_with fail
  refine Calls.mono (HU1.out _) ?_
  rintro e w2 ⟨rfl, hb2⟩
  go_wp2_with fail
  refine Calls.mono (HK2.out _) ?_
  rintro e w3 ⟨rfl, hb3⟩
  go_wp2_with fail
  refine Calls.mono (HU2.out _) ?_
  rintro e w4 ⟨rfl, hb4⟩
  go_wp2_with fail
  refine Calls.mono (HK3.out _) ?_
  rintro e w5 ⟨rfl, hb5⟩
  have hbw := Below.thn (Below.thn (Below.thn (Below.thn hb1 hb2) hb3) hb4) hb5
  clear hb1 hb2 hb3 hb4 hb5
  go_wp2_with fail
  refine wp_loop_rounds 4 ?_
  rw [rounds_succ]; go_upto_region 6 with fail
  go_quiet (fail)
  go_wp2_with fail
  rw [rounds_succ]; go_upto_region 6 with fail
  go_quiet (fail)
  go_wp2_with fail
  rw [rounds_succ]; go_upto_region 6 with fail
  go_quiet (fail)
  go_wp2_with fail
  rw [rounds_succ]; go_wp2_with fail
  refine Calls.mono (wakes_any _) ?_
  rintro e w9 ⟨rfl, hb9⟩
  go_wp2
  go_ret
  exact ⟨rfl, Below.thn hbw (Below.thn (Below.drewN' (Below.refl _ _) _) hb9)⟩

set_option maxRecDepth 100000 in
set_option maxHeartbeats 4000000 in
theorem rises16_any (d s a m k : Int) (w : World) (hd : 0 ≤ d ∧ d < 4294967296) (hs : 0 ≤ s ∧ s < 4294967296) (ha : 0 ≤ a ∧ a ≤ 255) (hm : 0 ≤ m ∧ m ≤ 255) (hk : 0 ≤ k ∧ k ≤ 255) (hk3 : k % 3 = 2) :
    Makes Try.prog 5 #[.int .u32 d, .int .u32 s, .int .u8 a, .int .u8 m, .int .u8 k] w (.bool true) := by
  unfold Makes
  obtain ⟨ha0, ha⟩ := ha
  obtain ⟨hm0, hm⟩ := hm
  obtain ⟨hd0, hd⟩ := hd
  obtain ⟨hs0, hs⟩ := hs
  obtain ⟨hk0, hk⟩ := hk
  obtain ⟨su, hsu⟩ : ∃ u, putI s (moreI (chI s 65536) m) 16 4278255615 = u := ⟨_, rfl⟩
  obtain ⟨du, hdu⟩ : ∃ u, putI d (moreI (chI d 65536) m) 16 4278255615 = u := ⟨_, rfl⟩
  have hs1 := putI_ch (M := 4278255615) (s := 16) hs0 (moreI_lo (chI_lo s 65536) hm0) (moreI_hi _ _) (by decide) t24
  have hd1 := putI_ch (M := 4278255615) (s := 16) hd0 (moreI_lo (chI_lo d 65536) hm0) (moreI_hi _ _) (by decide) t24
  rw [hsu] at hs1
  rw [hdu] at hd1
  have s0 := hs1 0 (by decide)
  have s8 := hs1 8 (by decide)
  have s16 := hs1 16 (by decide)
  have d0 := hd1 0 (by decide)
  have d8 := hd1 8 (by decide)
  have d16 := hd1 16 (by decide)
  simp at s0 s8 s16 d0 d8 d16
  obtain ⟨x, hx⟩ : ∃ x, overI d s a = x := ⟨_, rfl⟩
  obtain ⟨y, hy⟩ : ∃ y, overI d su a = y := ⟨_, rfl⟩
  obtain ⟨z, hz⟩ : ∃ z, overI du s a = z := ⟨_, rfl⟩
  have px := overI_parts d s ha0 ha
  have py := overI_parts d su ha0 ha
  have pz := overI_parts du s ha0 ha
  rw [hx] at px
  rw [hy, s0, s8, s16] at py
  rw [hz, d0, d8, d16] at pz
  obtain ⟨⟨px0, px1⟩, pxa, pxb, pxc⟩ := px
  obtain ⟨⟨py0, py1⟩, pya, pyb, pyc⟩ := py
  obtain ⟨⟨pz0, pz1⟩, pza, pzb, pzc⟩ := pz
  have g1 : chI x 65536 ≤ chI y 65536 := by
    rw [pxc, pyc]; exact mixI_over (moreI_ge (chI_hi _ _) hm0) ha0
  have g2 : chI x 65536 ≤ chI z 65536 := by
    rw [pxc, pzc]; exact mixI_behind (moreI_ge (chI_hi _ _) hm0) ha
  have e1 : chI y 1 = chI x 1 := by rw [pxa, pya]
  have e2 : chI y 256 = chI x 256 := by rw [pxb, pyb]
  have e3 : chI z 1 = chI x 1 := by rw [pxa, pza]
  have e4 : chI z 256 = chI x 256 := by rw [pxb, pzb]
  obtain ⟨bx0, bx8, bx16⟩ := shr8 x px0 px1
  obtain ⟨by0, by8, by16⟩ := shr8 y py0 py1
  obtain ⟨bz0, bz8, bz16⟩ := shr8 z pz0 pz1
  rw [e1] at by0
  rw [e2] at by8
  rw [e3] at bz0
  rw [e4] at bz8
  have HK1 := Lib.hid (fun w => over_eq w hx ha0 ha)
  have HK2 := Lib.hid (fun w => over_eq w hy ha0 ha)
  have HK3 := Lib.hid (fun w => over_eq w hz ha0 ha)
  have HU1 := Lib.hid (fun w => up16_any s m w hs0 hs hm0 hm)
  have HU2 := Lib.hid (fun w => up16_any d m w hd0 hd hm0 hm)
  rw [hsu] at HU1
  rw [hdu] at HU2
  clear hsu hdu hs1 hd1 s0 s8 s16 d0 d8 d16 hx hy hz pxa pxb pxc pya pyb pyc pza pzb pzc e1 e2 e3 e4
  generalize chI x 65536 = xk at *
  generalize chI y 65536 = yk at *
  generalize chI z 65536 = zk at *
  generalize chI x 1 = xl at *
  generalize chI x 256 = xm at *
  have hkm : k % 3 * 8 = 16 := by omega
  go_enter Try.func5, Try.ntmps5
  go_wp2_with fail
  refine Calls.mono (HK1.out _) ?_
  rintro e w1 ⟨rfl, hb1⟩
  go_wp2_with fail
  refine Calls.mono (HU1.out _) ?_
  rintro e w2 ⟨rfl, hb2⟩
  go_wp2_with fail
  refine Calls.mono (HK2.out _) ?_
  rintro e w3 ⟨rfl, hb3⟩
  go_wp2_with fail
  refine Calls.mono (HU2.out _) ?_
  rintro e w4 ⟨rfl, hb4⟩
  go_wp2_with fail
  refine Calls.mono (HK3.out _) ?_
  rintro e w5 ⟨rfl, hb5⟩
  have hbw := Below.thn (Below.thn (Below.thn (Below.thn hb1 hb2) hb3) hb4) hb5
  clear hb1 hb2 hb3 hb4 hb5
  go_wp2_with fail
  refine wp_loop_rounds 4 ?_
  rw [rounds_succ]; go_upto_region 6 with fail
  go_quiet (fail)
  go_wp2_with fail
  rw [rounds_succ]; go_upto_region 6 with fail
  go_quiet (fail)
  go_wp2_with fail
  rw [rounds_succ]; go_upto_region 6 with fail
  go_quiet (fail)
  go_wp2_with fail
  rw [rounds_succ]; go_wp2_with fail
  refine Calls.mono (wakes_any _) ?_
  rintro e w9 ⟨rfl, hb9⟩
  go_wp2
  go_ret
  exact ⟨rfl, Below.thn hbw (Below.thn (Below.drewN' (Below.refl _ _) _) hb9)⟩

theorem rises_any (d s a m k : Int) (w : World) (hd : 0 ≤ d ∧ d < 4294967296) (hs : 0 ≤ s ∧ s < 4294967296) (ha : 0 ≤ a ∧ a ≤ 255) (hm : 0 ≤ m ∧ m ≤ 255) (hk : 0 ≤ k ∧ k ≤ 255) :
    Makes Try.prog 5 #[.int .u32 d, .int .u32 s, .int .u8 a, .int .u8 m, .int .u8 k] w (.bool true) := by
  rcases (show k % 3 = 0 ∨ k % 3 = 1 ∨ k % 3 = 2 by omega) with h | h | h
  · exact rises0_any d s a m k w hd hs ha hm hk h
  · exact rises8_any d s a m k w hd hs ha hm hk h
  · exact rises16_any d s a m k w hd hs ha hm hk h

end Go.Proofs.Ytdofmobijkaofaa
