/- The walk of the statement HuffKnown. -/
import Derived.Test.YtpdfkgdgpofhbaaM845
import Derived.Test.YtpdfkgdgpofhbaaM846
import Derived.Test.YtpdfkgdgpofhbaaM830
namespace Go.Proofs.Ytpdfkgdgpofhbaa
open Go.RowKit Go.Maps

set_option maxRecDepth 20000 in
set_option maxHeartbeats 8000000 in
theorem hknown_any (w : World) : Makes Try.prog 7 #[] w (.bool true) := by
  unfold Makes
  have hm0 : ∀ w : World, (Instr.makeSlice 22 (.int .i64 321) (.int .i64 321)).run Try.prog w = .ok (.slice (some ⟨w.heap.size, 0, none⟩) 321 321) (w.alloc (.cells (lensRow (fun _ => 0) 321).toArray 5)) := fun w => make_u8 321 (by omega) w
  have hm1 : ∀ w : World, (Instr.makeSlice 22 (.int .i64 320) (.int .i64 320)).run Try.prog w = .ok (.slice (some ⟨w.heap.size, 0, none⟩) 320 320) (w.alloc (.cells (lensRow (fun _ => 0) 320).toArray 5)) := fun w => make_u8 320 (by omega) w
  have hm2 : ∀ w : World, (Instr.makeSlice 23 (.int .i64 320) (.int .i64 320)).run Try.prog w = .ok (.slice (some ⟨w.heap.size, 0, none⟩) 320 320) (w.alloc (.cells (cRow (fun _ => 0) 320).toArray 30)) := fun w => make_u16 320 (by omega) w
  go_enter Try.func7, Try.ntmps7
  go_upto_region 2 with (fail)
  refine wp_region_itms [some (postR 5 4 ([2, 1, 3, 3].map u8v)), some (postR 30 4 ([1, 0, 3, 7].map u16v)), none, some (postR 5 3 ([1, 1, 1].map u8v)), none, some (postR 5 1 ([2].map u8v)), none, some (postR 5 1 ([1].map u8v)), some (postR 30 1 ([0].map u16v)), none, some (postR 5 2 ([0, 0].map u8v)), some (postR 30 2 ([0, 0].map u16v)), none, none, some (postR 5 3 ([0, 1, 0].map u8v)), some (postR 30 3 ([0, 0, 0].map u16v)), none, some (postR 5 2 ([1, 2].map u8v)), none, some (postR 5 1 ([16].map u8v)), none, some (postR 5 321 (lensRow (fun _ => 0) 321)), none, some (postR 5 320 (lensRow (fun _ => 0) 320)), some (postR 30 320 (cRow (fun _ => 0) 320)), none, some (postR 5 8 ([3, 3, 3, 3, 3, 2, 4, 4].map u8v)), some (postR 30 8 ([2, 6, 1, 5, 3, 0, 7, 15].map u16v)), none] (by kernel_rfl) (by kernel_rfl) (by kernel_rfl) (by kernel_rfl) (fun p hp r hr v => ?_) ?_
  · simp only [List.mem_cons, List.not_mem_nil, or_false] at hp
    rcases hp with rfl | rfl | rfl | rfl | rfl | rfl | rfl | rfl | rfl | rfl | rfl | rfl | rfl | rfl | rfl | rfl | rfl | rfl | rfl | rfl | rfl | rfl | rfl | rfl | rfl | rfl | rfl | rfl | rfl <;> first | (cases hr; done) | (cases hr; exact postR_stays _ _ _ _)
  simp only [itms]
  refine Mq_new (fun m => ?_) ?_
  · go_simp
    first | exact postR_new _ _ _ _ | (rw [hm0]; exact postR_new _ _ _ _) | (rw [hm1]; exact postR_new _ _ _ _) | (rw [hm2]; exact postR_new _ _ _ _)
  rintro _ ⟨-, b0, rfl, -⟩
  refine Mq_new (fun m => ?_) ?_
  · go_simp
    first | exact postR_new _ _ _ _ | (rw [hm0]; exact postR_new _ _ _ _) | (rw [hm1]; exact postR_new _ _ _ _) | (rw [hm2]; exact postR_new _ _ _ _)
  rintro _ ⟨-, b1, rfl, -⟩
  refine Mq_look (.agg #[.slice (some ⟨b0, 0, none⟩) 4 4, .slice (some ⟨b1, 0, none⟩) 4 4, .int .i64 0]) (fun m => ?_) ?_
  · go_simp
  refine Mq_new (fun m => ?_) ?_
  · go_simp
    first | exact postR_new _ _ _ _ | (rw [hm0]; exact postR_new _ _ _ _) | (rw [hm1]; exact postR_new _ _ _ _) | (rw [hm2]; exact postR_new _ _ _ _)
  rintro _ ⟨-, b3, rfl, -⟩
  refine Mq_look (.agg #[.slice (some ⟨b3, 0, none⟩) 3 3, .slice none 0 0, .int .i64 60]) (fun m => ?_) ?_
  · go_simp
  refine Mq_new (fun m => ?_) ?_
  · go_simp
    first | exact postR_new _ _ _ _ | (rw [hm0]; exact postR_new _ _ _ _) | (rw [hm1]; exact postR_new _ _ _ _) | (rw [hm2]; exact postR_new _ _ _ _)
  rintro _ ⟨-, b5, rfl, -⟩
  refine Mq_look (.agg #[.slice (some ⟨b5, 0, none⟩) 1 1, .slice none 0 0, .int .i64 60]) (fun m => ?_) ?_
  · go_simp
  refine Mq_new (fun m => ?_) ?_
  · go_simp
    first | exact postR_new _ _ _ _ | (rw [hm0]; exact postR_new _ _ _ _) | (rw [hm1]; exact postR_new _ _ _ _) | (rw [hm2]; exact postR_new _ _ _ _)
  rintro _ ⟨-, b7, rfl, -⟩
  refine Mq_new (fun m => ?_) ?_
  · go_simp
    first | exact postR_new _ _ _ _ | (rw [hm0]; exact postR_new _ _ _ _) | (rw [hm1]; exact postR_new _ _ _ _) | (rw [hm2]; exact postR_new _ _ _ _)
  rintro _ ⟨-, b8, rfl, -⟩
  refine Mq_look (.agg #[.slice (some ⟨b7, 0, none⟩) 1 1, .slice (some ⟨b8, 0, none⟩) 1 1, .int .i64 0]) (fun m => ?_) ?_
  · go_simp
  refine Mq_new (fun m => ?_) ?_
  · go_simp
    first | exact postR_new _ _ _ _ | (rw [hm0]; exact postR_new _ _ _ _) | (rw [hm1]; exact postR_new _ _ _ _) | (rw [hm2]; exact postR_new _ _ _ _)
  rintro _ ⟨-, b10, rfl, -⟩
  refine Mq_new (fun m => ?_) ?_
  · go_simp
    first | exact postR_new _ _ _ _ | (rw [hm0]; exact postR_new _ _ _ _) | (rw [hm1]; exact postR_new _ _ _ _) | (rw [hm2]; exact postR_new _ _ _ _)
  rintro _ ⟨-, b11, rfl, -⟩
  refine Mq_look (.agg #[.slice (some ⟨b10, 0, none⟩) 2 2, .slice (some ⟨b11, 0, none⟩) 2 2, .int .i64 0]) (fun m => ?_) ?_
  · go_simp
  refine Mq_look (.agg #[.slice none 0 0, .slice none 0 0, .int .i64 0]) (fun m => ?_) ?_
  · go_simp
  refine Mq_new (fun m => ?_) ?_
  · go_simp
    first | exact postR_new _ _ _ _ | (rw [hm0]; exact postR_new _ _ _ _) | (rw [hm1]; exact postR_new _ _ _ _) | (rw [hm2]; exact postR_new _ _ _ _)
  rintro _ ⟨-, b14, rfl, -⟩
  refine Mq_new (fun m => ?_) ?_
  · go_simp
    first | exact postR_new _ _ _ _ | (rw [hm0]; exact postR_new _ _ _ _) | (rw [hm1]; exact postR_new _ _ _ _) | (rw [hm2]; exact postR_new _ _ _ _)
  rintro _ ⟨-, b15, rfl, -⟩
  refine Mq_look (.agg #[.slice (some ⟨b14, 0, none⟩) 3 3, .slice (some ⟨b15, 0, none⟩) 3 3, .int .i64 0]) (fun m => ?_) ?_
  · go_simp
  refine Mq_new (fun m => ?_) ?_
  · go_simp
    first | exact postR_new _ _ _ _ | (rw [hm0]; exact postR_new _ _ _ _) | (rw [hm1]; exact postR_new _ _ _ _) | (rw [hm2]; exact postR_new _ _ _ _)
  rintro _ ⟨-, b17, rfl, -⟩
  refine Mq_look (.agg #[.slice (some ⟨b17, 0, none⟩) 2 2, .slice none 0 0, .int .i64 60]) (fun m => ?_) ?_
  · go_simp
  refine Mq_new (fun m => ?_) ?_
  · go_simp
    first | exact postR_new _ _ _ _ | (rw [hm0]; exact postR_new _ _ _ _) | (rw [hm1]; exact postR_new _ _ _ _) | (rw [hm2]; exact postR_new _ _ _ _)
  rintro _ ⟨-, b19, rfl, -⟩
  refine Mq_look (.agg #[.slice (some ⟨b19, 0, none⟩) 1 1, .slice none 0 0, .int .i64 1]) (fun m => ?_) ?_
  · go_simp
  refine Mq_new (fun m => ?_) ?_
  · go_simp
    first | exact postR_new _ _ _ _ | (rw [hm0]; exact postR_new _ _ _ _) | (rw [hm1]; exact postR_new _ _ _ _) | (rw [hm2]; exact postR_new _ _ _ _)
  rintro _ ⟨-, b21, rfl, -⟩
  refine Mq_look (.agg #[.slice (some ⟨b21, 0, none⟩) 321 321, .slice none 0 0, .int .i64 1]) (fun m => ?_) ?_
  · go_simp
  refine Mq_new (fun m => ?_) ?_
  · go_simp
    first | exact postR_new _ _ _ _ | (rw [hm0]; exact postR_new _ _ _ _) | (rw [hm1]; exact postR_new _ _ _ _) | (rw [hm2]; exact postR_new _ _ _ _)
  rintro _ ⟨-, b23, rfl, -⟩
  refine Mq_new (fun m => ?_) ?_
  · go_simp
    first | exact postR_new _ _ _ _ | (rw [hm0]; exact postR_new _ _ _ _) | (rw [hm1]; exact postR_new _ _ _ _) | (rw [hm2]; exact postR_new _ _ _ _)
  rintro _ ⟨-, b24, rfl, -⟩
  refine Mq_look (.agg #[.slice (some ⟨b23, 0, none⟩) 320 320, .slice (some ⟨b24, 0, none⟩) 320 320, .int .i64 0]) (fun m => ?_) ?_
  · go_simp
  refine Mq_new (fun m => ?_) ?_
  · go_simp
    first | exact postR_new _ _ _ _ | (rw [hm0]; exact postR_new _ _ _ _) | (rw [hm1]; exact postR_new _ _ _ _) | (rw [hm2]; exact postR_new _ _ _ _)
  rintro _ ⟨-, b26, rfl, -⟩
  refine Mq_new (fun m => ?_) ?_
  · go_simp
    first | exact postR_new _ _ _ _ | (rw [hm0]; exact postR_new _ _ _ _) | (rw [hm1]; exact postR_new _ _ _ _) | (rw [hm2]; exact postR_new _ _ _ _)
  rintro _ ⟨-, b27, rfl, -⟩
  refine Mq_look (.agg #[.slice (some ⟨b26, 0, none⟩) 8 8, .slice (some ⟨b27, 0, none⟩) 8 8, .int .i64 0]) (fun m => ?_) ?_
  · go_simp
  refine Mq_nil ?_
  intro w' hb hkn
  obtain ⟨⟨⟨⟨⟨⟨⟨⟨⟨⟨⟨⟨⟨⟨⟨⟨⟨-, h0⟩, h1⟩, h3⟩, h5⟩, h7⟩, h8⟩, h10⟩, h11⟩, h14⟩, h15⟩, h17⟩, h19⟩, h21⟩, h23⟩, h24⟩, h26⟩, h27⟩ := hkn
  replace h0 := postR_at h0
  replace h1 := postR_at h1
  replace h3 := postR_at h3
  replace h5 := postR_at h5
  replace h7 := postR_at h7
  replace h8 := postR_at h8
  replace h10 := postR_at h10
  replace h11 := postR_at h11
  replace h14 := postR_at h14
  replace h15 := postR_at h15
  replace h17 := postR_at h17
  replace h19 := postR_at h19
  replace h21 := postR_at h21
  replace h23 := postR_at h23
  replace h24 := postR_at h24
  replace h26 := postR_at h26
  replace h27 := postR_at h27
  simp only [List.length_cons, List.length_nil, List.drop_succ_cons, List.drop_zero]
  go_upto_region 2 with (fail)
  generalize hW5 : World.alloc w' _ = W5
  obtain ⟨hT, hb5⟩ := alloc_at hW5
  have Hrows := Lib.hid (k_rows ((hb5.block _ (lt_heap h0)).trans h0) ((hb5.block _ (lt_heap h1)).trans h1) ((hb5.block _ (lt_heap h3)).trans h3) ((hb5.block _ (lt_heap h5)).trans h5) ((hb5.block _ (lt_heap h7)).trans h7) ((hb5.block _ (lt_heap h8)).trans h8) ((hb5.block _ (lt_heap h10)).trans h10) ((hb5.block _ (lt_heap h11)).trans h11) ((hb5.block _ (lt_heap h14)).trans h14) ((hb5.block _ (lt_heap h15)).trans h15) ((hb5.block _ (lt_heap h17)).trans h17) ((hb5.block _ (lt_heap h19)).trans h19) ((hb5.block _ (lt_heap h21)).trans h21) ((hb5.block _ (lt_heap h23)).trans h23) ((hb5.block _ (lt_heap h24)).trans h24) ((hb5.block _ (lt_heap h26)).trans h26) ((hb5.block _ (lt_heap h27)).trans h27) hT)
  have Hb5 := Lib.hid (Below.thn hb hb5)
  obtain ⟨BB, hBB⟩ : ∃ BB, w'.heap.size = BB := ⟨_, rfl⟩
  rw [hBB] at Hrows ⊢
  clear hW5 hT hb5 hb hBB hm0 hm1 hm2 h0 h1 h3 h5 h7 h8 h10 h11 h14 h15 h17 h19 h21 h23 h24 h26 h27
  go_wp2_with fail
  go_loopw [2] (fun iv wr => ∃ i : Nat, iv = .int .i64 (i : Int) ∧ i ≤ 12 ∧ Hid (Below W5.heap.size W5 wr)) (fun iv _ => 12 - (intOf iv).toNat)
  case atStart => exact ⟨0, rfl, Nat.zero_le _, Lib.hid (Below.refl _ _)⟩
  case round =>
    obtain ⟨i, rfl, hi, HB⟩ := hrel
    by_cases hin : i < 12
    · have d1 : decide ((i : Int) < 12) = true := by simp; omega
      obtain ⟨pl, pw, n, m, e, ls, ws, HK⟩ := Hrows.out i hin
      have c0 := cell_later HB.out HK.c0
      have c1 := cell_later HB.out HK.c1
      have c2 := cell_later HB.out HK.c2
      have HK := Lib.hid HK
      have i0 : (0 : Int) ≤ (i : Int) := by omega
      have i1 : (i : Int) < 12 := by omega
      by_cases hc : e = 0
      · subst hc
        obtain ⟨hm, hk⟩ := HK.out.good rfl
        have hn := HK.out.row
        obtain ⟨p', c', e', -, -, -⟩ := hn
        cases e'
        have Hk := Lib.hid hk
        subst hm
        clear hk
        go_wp2_with fail
        refine Calls.mono (codes_ok ls _ wr (HK.out.row.below HB.out) HK.out.chk) ?_
        rintro e w6 ⟨v6, rfl, ho6, hb6⟩
        obtain ⟨p6, c6, rfl⟩ := owns_slice ho6
        have HB6 := Lib.hid (Below.thn HB.out hb6)
        have Ho6 := Lib.hid ho6
        have c0 := cell_later hb6 c0
        have c1 := cell_later hb6 c1
        have c2 := cell_later hb6 c2
        clear ho6 hb6 HB
        go_wp2_with fail
        have hle : ls.length ≤ 320 := HK.out.le
        have Hc0 := Lib.hid c0
        have Hc1 := Lib.hid c1
        clear c0 c1 c2
        go_loopw [5] (fun kv wr => ∃ k : Nat, kv = .int .i64 (k : Int) ∧ k ≤ ls.length ∧ Hid (Below w6.heap.size w6 wr)) (fun kv _ => ls.length - (intOf kv).toNat)
        case atStart => exact ⟨0, rfl, Nat.zero_le _, Lib.hid (Below.refl _ _)⟩
        case round =>
          obtain ⟨k, rfl, hkl, HC⟩ := hrel
          by_cases hkn : k < ls.length
          · have d2 : decide ((k : Int) < (ls.length : Int)) = true := by simp; omega
            obtain ⟨bw, rfl, hw⟩ := HK.out.want k hkn
            obtain ⟨bc, rfl, hcc⟩ := c_cells Ho6.out k hkn
            rw [Hk.out k hkn] at hcc
            have c1 := cell_later HC.out Hc1.out
            have x1 := cell_later HC.out (cell_later HB6.out hw)
            have x2 := cell_later HC.out hcc
            have k0 : (0 : Int) ≤ (k : Int) := by omega
            have k1 : (k : Int) < (ls.length : Int) := by omega
            clear hw hcc
            go_upto_region 11 with (fail)
            go_quiet (fail)
            rename_i nq
            have hd : Below wr.heap.size wr (wr.drewN nq) := Below.drewN' (Below.refl _ _) nq
            have HC2 := Lib.hid (Below.thn HC.out hd)
            generalize wr.drewN nq = W7 at *
            clear hd c1 x1 x2
            go_wp2
            go_roundw
            case rel => exact ⟨k + 1, by go_num, by omega, HC2⟩
            case measure => simp [intOf]; omega
          · obtain rfl : k = ls.length := by omega
            have HB7 := Lib.hid (Below.thn HB6.out HC.out)
            go_wp2
            go_roundw
            case rel => exact ⟨i + 1, by go_num, by omega, HB7⟩
            case measure => simp [intOf]; omega
      · obtain rfl : m = 0 := HK.out.bad hc
        have hn := HK.out.row
        obtain ⟨p', c', e', -, -, -⟩ := hn
        cases e'
        have hcs : chk ls ≠ 0 := by rw [HK.out.chk]; exact hc
        have Hcall := Lib.hid (codes_bad ls _ wr (HK.out.row.below HB.out) hcs)
        rw [HK.out.chk] at Hcall
        have ec : (e == e) = true := by simp
        have ec' : (e != e) = false := by simp
        clear hc hcs
        go_wp2_with fail
        refine Calls.mono Hcall.out ?_
        rintro _ w6 ⟨rfl, rfl⟩
        go_wp2_with fail
        go_loopw [5] (fun kv wr => kv = .int .i64 0 ∧ wr = w6) (fun kv _ => 1)
        case atStart => exact ⟨rfl, rfl⟩
        case round =>
          obtain ⟨rfl, rfl⟩ := hrel
          go_wp2
          go_roundw
          case rel => exact ⟨i + 1, by go_num, by omega, HB⟩
          case measure => simp [intOf]; omega
    · obtain rfl : i = 12 := by omega
      have HbA := Lib.hid (Below.thn Hb5.out HB.out)
      clear HB Hrows Hb5
      generalize wr = W0 at *
      go_wp2_with fail
      have hr := row_litZ W0 [1, 1, 2, 4] (by decide)
      refine Calls.mono (lengths_ok [1, 1, 2, 4] _ 15 _ hr (by decide) (by decide)) ?_
      rintro e w1 ⟨v, g, rfl, ho, hok, hb⟩
      have ho : w1.ownsRow _ 5 1 v 4 (lensRow g 4) := ho
      obtain ⟨q0, q1, q2, q3⟩ := kn_a hok
      obtain ⟨ga, ca, rfl, -, -, hca⟩ := owns_ptr ho (by decide)
      have A0 : Hid (w1.cell? ⟨ga, 0, none⟩ = some (.int .u8 3)) := Lib.hid (hca 0 _ (by rw [lensRow_at _ (by decide), q0]; rfl))
      have A1 : Hid (w1.cell? ⟨ga, 1, none⟩ = some (.int .u8 3)) := Lib.hid (hca 1 _ (by rw [lensRow_at _ (by decide), q1]; rfl))
      have A2 : Hid (w1.cell? ⟨ga, 2, none⟩ = some (.int .u8 2)) := Lib.hid (hca 2 _ (by rw [lensRow_at _ (by decide), q2]; rfl))
      have A3 : Hid (w1.cell? ⟨ga, 3, none⟩ = some (.int .u8 1)) := Lib.hid (hca 3 _ (by rw [lensRow_at _ (by decide), q3]; rfl))
      have hbw := Below.thn (Below.al1 W0 _) hb
      have Hb1 := Lib.hid (Below.thn HbA.out hbw)
      clear hr ho hok hb hbw hca q0 q1 q2 q3 HbA
      go_wp2_with fail
      have hr := row_litZ w1 [0, 5] (by decide)
      refine Calls.mono (lengths_ok [0, 5] _ 3 _ hr (by decide) (by decide)) ?_
      rintro e w2 ⟨v, g, rfl, ho, hok, hb⟩
      have ho : w2.ownsRow _ 5 1 v 2 (lensRow g 2) := ho
      obtain ⟨q0, q1⟩ := kn_b hok
      obtain ⟨gb, cb, rfl, -, -, hca⟩ := owns_ptr ho (by decide)
      have B0 : Hid (w2.cell? ⟨gb, 0, none⟩ = some (.int .u8 0)) := Lib.hid (hca 0 _ (by rw [lensRow_at _ (by decide), q0]; rfl))
      have B1 : Hid (w2.cell? ⟨gb, 1, none⟩ = some (.int .u8 1)) := Lib.hid (hca 1 _ (by rw [lensRow_at _ (by decide), q1]; rfl))
      have hbw := Below.thn (Below.al1 w1 _) hb
      replace A0 := Lib.hid (cell_later hbw A0.out)
      replace A1 := Lib.hid (cell_later hbw A1.out)
      replace A2 := Lib.hid (cell_later hbw A2.out)
      replace A3 := Lib.hid (cell_later hbw A3.out)
      have Hb2 := Lib.hid (Below.thn Hb1.out hbw)
      clear hr ho hok hb hbw hca q0 q1 Hb1
      go_wp2_with fail
      have hr := row_litZ w2 [1, 1, 1] (by decide)
      refine Calls.mono (lengths_code [1, 1, 1] _ 1 _ hr (by decide) (by decide)) ?_
      rintro e w3 ⟨rfl, hb⟩
      have hbw := Below.thn (Below.al1 w2 _) hb
      replace A0 := Lib.hid (cell_later hbw A0.out)
      replace A1 := Lib.hid (cell_later hbw A1.out)
      replace A2 := Lib.hid (cell_later hbw A2.out)
      replace A3 := Lib.hid (cell_later hbw A3.out)
      replace B0 := Lib.hid (cell_later hbw B0.out)
      replace B1 := Lib.hid (cell_later hbw B1.out)
      have Hb3 := Lib.hid (Below.thn Hb2.out hbw)
      clear hr hb hbw Hb2
      go_wp2_with fail
      have hr := row_litZ w3 [1] (by decide)
      refine Calls.mono (lengths_bad [1] _ 0 _ hr (by decide)) ?_
      rintro e w4 ⟨rfl, hwe⟩
      have hbw := hwe ▸ Below.al1 w3 _
      replace A0 := Lib.hid (cell_later hbw A0.out)
      replace A1 := Lib.hid (cell_later hbw A1.out)
      replace A2 := Lib.hid (cell_later hbw A2.out)
      replace A3 := Lib.hid (cell_later hbw A3.out)
      replace B0 := Lib.hid (cell_later hbw B0.out)
      replace B1 := Lib.hid (cell_later hbw B1.out)
      have Hb4 := Lib.hid (Below.thn Hb3.out hbw)
      clear hr hbw hwe Hb3
      go_wp2_with fail
      have hr := row_litZ w4 [1] (by decide)
      refine Calls.mono (lengths_bad [1] _ 16 _ hr (by decide)) ?_
      rintro e w5 ⟨rfl, hwe⟩
      have hbw := hwe ▸ Below.al1 w4 _
      replace A0 := Lib.hid (cell_later hbw A0.out)
      replace A1 := Lib.hid (cell_later hbw A1.out)
      replace A2 := Lib.hid (cell_later hbw A2.out)
      replace A3 := Lib.hid (cell_later hbw A3.out)
      replace B0 := Lib.hid (cell_later hbw B0.out)
      replace B1 := Lib.hid (cell_later hbw B1.out)
      have Hb5 := Lib.hid (Below.thn Hb4.out hbw)
      clear hr hbw hwe Hb4
      go_wp2_with fail
      have hr := row_litZ w5 [-1] (by decide)
      refine Calls.mono (lengths_bad [-1] _ 5 _ hr (by decide)) ?_
      rintro e w6 ⟨rfl, hwe⟩
      have hbw := hwe ▸ Below.al1 w5 _
      replace A0 := Lib.hid (cell_later hbw A0.out)
      replace A1 := Lib.hid (cell_later hbw A1.out)
      replace A2 := Lib.hid (cell_later hbw A2.out)
      replace A3 := Lib.hid (cell_later hbw A3.out)
      replace B0 := Lib.hid (cell_later hbw B0.out)
      replace B1 := Lib.hid (cell_later hbw B1.out)
      have Hb6 := Lib.hid (Below.thn Hb5.out hbw)
      clear hr hbw hwe Hb5
      go_wp2_with fail
      have hr := row_litZ w6 [1099511627777] (by decide)
      refine Calls.mono (lengths_bad [1099511627777] _ 5 _ hr (by decide)) ?_
      rintro e w7 ⟨rfl, hwe⟩
      have hbw := hwe ▸ Below.al1 w6 _
      replace A0 := Lib.hid (cell_later hbw A0.out)
      replace A1 := Lib.hid (cell_later hbw A1.out)
      replace A2 := Lib.hid (cell_later hbw A2.out)
      replace A3 := Lib.hid (cell_later hbw A3.out)
      replace B0 := Lib.hid (cell_later hbw B0.out)
      replace B1 := Lib.hid (cell_later hbw B1.out)
      have Hb7 := Lib.hid (Below.thn Hb6.out hbw)
      clear hr hbw hwe Hb6
      have hm3 : ∀ w : World, (Instr.makeSlice 47 (.int .i64 321) (.int .i64 321)).run Try.prog w = .ok (.slice (some ⟨w.heap.size, 0, none⟩) 321 321) (w.alloc (.cells ((List.replicate 321 (0 : Int)).map (Value.int .i64)).toArray 3)) := fun w => make_z 321 (by omega) w
      have hr := row_litZ w7 (List.replicate 321 0) (by rw [List.length_replicate]; omega)
      rw [List.length_replicate] at hr
      have Hr := Lib.hid hr
      clear hr
      go_wp2_with fail
      refine Calls.mono (lengths_bad (List.replicate 321 0) _ 5 _ Hr.out (zeros_bad 321 (by omega) 5)) ?_
      rintro e w8 ⟨rfl, hwe⟩
      have hbw := hwe ▸ Below.al1 w7 _
      replace A0 := Lib.hid (cell_later hbw A0.out)
      replace A1 := Lib.hid (cell_later hbw A1.out)
      replace A2 := Lib.hid (cell_later hbw A2.out)
      replace A3 := Lib.hid (cell_later hbw A3.out)
      replace B0 := Lib.hid (cell_later hbw B0.out)
      replace B1 := Lib.hid (cell_later hbw B1.out)
      have Hb8 := Lib.hid (Below.thn Hb7.out hbw)
      clear hbw hwe Hr hm3 Hb7
      go_wp2_with fail
      have hr := row_litZ w8 [1099511627776, 1099511627776] (by decide)
      refine Calls.mono (lengths_ok [1099511627776, 1099511627776] _ 5 _ hr (by decide) (by decide)) ?_
      rintro e w9 ⟨v, g, rfl, ho, hok, hb⟩
      have ho : w9.ownsRow _ 5 1 v 2 (lensRow g 2) := ho
      obtain ⟨q0, q1⟩ := kn_n hok
      obtain ⟨gn, cn', rfl, -, -, hca⟩ := owns_ptr ho (by decide)
      have hbw := Below.thn (Below.al1 w8 _) hb
      replace A0 := Lib.hid (cell_later hbw A0.out)
      replace A1 := Lib.hid (cell_later hbw A1.out)
      replace A2 := Lib.hid (cell_later hbw A2.out)
      replace A3 := Lib.hid (cell_later hbw A3.out)
      replace B0 := Lib.hid (cell_later hbw B0.out)
      replace B1 := Lib.hid (cell_later hbw B1.out)
      have Hb9 := Lib.hid (Below.thn Hb8.out hbw)
      have N0 : w9.cell? ⟨gn, 0, none⟩ = some (.int .u8 1) := hca 0 _ (by rw [lensRow_at _ (by decide), q0]; rfl)
      have N1 : w9.cell? ⟨gn, 1, none⟩ = some (.int .u8 1) := hca 1 _ (by rw [lensRow_at _ (by decide), q1]; rfl)
      clear hr ho hok hb hbw hca q0 q1 Hb8
      have A0 := A0.out
      have A1 := A1.out
      have A2 := A2.out
      have A3 := A3.out
      have B0 := B0.out
      have B1 := B1.out
      go_wp2_with fail
      refine Calls.mono (newT [2, 1, 3, 3] w9 ex_codes (by decide)) ?_
      rintro e wA ⟨T, M, n, L, F, rfl, hF, hM, hL15, htb, hTM, hb⟩
      obtain ⟨k1, k2, k3⟩ := kr_one hF hM
      have K1 := Lib.hid k1
      have K2 := Lib.hid k2
      have K3 := Lib.hid k3
      have Htb := Lib.hid htb
      have HTM := Lib.hid hTM
      have HbA := Lib.hid (Below.thn Hb9.out hb)
      clear hF hM htb hTM hb k1 k2 k3 Hb9 A0 A1 A2 A3 B0 B1 N0 N1
      go_wp2_with fail
      refine Calls.mono (newR 58 (by decide) wA) ?_
      rintro e wB ⟨B, sv, rfl, hrd, hb, hB⟩
      have HTB : Hid (T ≠ B ∧ M ≠ B) := Lib.hid (by have := HTM.out; omega)
      have HB : Hid (w.heap.size ≤ B) := Lib.hid (Nat.le_trans HbA.out.size hB)
      have Ht1 := Lib.hid (Htb.out.turns (N := fun _ => False) (Turns.of_below' hb) (fun h => h) (fun h => h))
      have HR1 := Lib.hid hrd
      have HbB := Lib.hid (Below.thn HbA.out hb)
      clear hrd hb hB Htb HTM HbA
      go_wp2_with fail
      refine Calls.mono (readK w HbB.out HB.out Ht1.out HR1.out hL15 HTB.out K1.out) ?_
      rintro e wC ⟨rfl, hrd, htb, htu, hb⟩
      have HR2 := Lib.hid hrd
      have Ht2 := Lib.hid htb
      have HbC := Lib.hid hb
      clear hrd htb htu hb HR1 Ht1 HbB K1
      go_wp2_with fail
      refine Calls.mono (readK w HbC.out HB.out Ht2.out HR2.out hL15 HTB.out K2.out) ?_
      rintro e wD ⟨rfl, hrd, htb, htu, hb⟩
      have HR3 := Lib.hid hrd
      have Ht3 := Lib.hid htb
      have HbD := Lib.hid hb
      clear hrd htb htu hb HR2 Ht2 HbC K2
      go_wp2_with fail
      refine Calls.mono (readK w HbD.out HB.out Ht3.out HR3.out hL15 HTB.out K3.out) ?_
      rintro e wE ⟨rfl, hrd, htb, htu, hb⟩
      have HRr := Lib.hid hrd
      have HbE := Lib.hid hb
      clear hrd htb htu hb HR3 Ht3 HbD K3 HTB HB hL15
      go_wp2_with fail
      refine Calls.mono (newT [1] wE (by decide) (by decide)) ?_
      rintro e wF ⟨T1, M1, n1, L1, F1, rfl, hF, hM, hL1, htb, hTM, hb⟩
      have K1 := Lib.hid (kr_two hF hM)
      have Ht1 := Lib.hid htb
      have HTM1 := Lib.hid hTM
      have HRr := Lib.hid (HRr.out.below hb)
      have HbF := Lib.hid (Below.thn HbE.out hb)
      clear hF hM htb hTM hb HbE
      go_wp2_with fail
      refine Calls.mono (newT [0] wF (by decide) (by decide)) ?_
      rintro e wG ⟨T2, M2, n2, L2, F2, rfl, hF, hM, hL2, htb, hTM, hb⟩
      have K2 := Lib.hid (kr_no (F := F2) hM)
      have Ht2 := Lib.hid htb
      have HTM2 := Lib.hid hTM
      have HTM1 : Hid (T1 < wG.heap.size ∧ M1 < wG.heap.size) := Lib.hid (by have := hb.size; have := HTM1.out; omega)
      have Ht1 := Lib.hid (Ht1.out.turns (N := fun _ => False) (Turns.of_below' hb) (fun h => h) (fun h => h))
      have HRr := Lib.hid (HRr.out.below hb)
      have HbG := Lib.hid (Below.thn HbF.out hb)
      clear hF hM htb hTM hb HbF
      go_wp2_with fail
      refine Calls.mono (newR 1 (by decide) wG) ?_
      rintro e wH ⟨Y, yv, rfl, hrd, hb, hB⟩
      have HTB1 : Hid (T1 ≠ Y ∧ M1 ≠ Y) := Lib.hid (by have := HTM1.out; omega)
      have HY : Hid (w.heap.size ≤ Y) := Lib.hid (Nat.le_trans HbG.out.size hB)
      have Ht1 := Lib.hid (Ht1.out.turns (N := fun _ => False) (Turns.of_below' hb) (fun h => h) (fun h => h))
      have Ht2 := Lib.hid (Ht2.out.turns (N := fun _ => False) (Turns.of_below' hb) (fun h => h) (fun h => h))
      have HRB : Hid (B ≠ Y) := Lib.hid (by have := HRr.out.size; omega)
      have HRs : Hid (∀ k, sv.ownBlock = some k → k ≠ Y) := Lib.hid (fun k hk => by have := HRr.out.row.lt k hk; omega)
      have HTM2y : Hid (T2 ≠ Y ∧ M2 ≠ Y) := Lib.hid (by have := HTM2.out; omega)
      have HTM2 : Hid (T2 < wH.heap.size ∧ M2 < wH.heap.size) := Lib.hid (by have := hb.size; have := HTM2.out; omega)
      have HRr := Lib.hid (HRr.out.below hb)
      have HRy := Lib.hid hrd
      have HbH := Lib.hid (Below.thn HbG.out hb)
      clear hrd hb hB HTM1 HbG
      go_wp2_with fail
      refine Calls.mono (readK w HbH.out HY.out Ht1.out HRy.out hL1 HTB1.out K1.out) ?_
      rintro e wI ⟨rfl, hrd, htb, htu, hb⟩
      have HRr := Lib.hid (HRr.out.turns htu (fun e => HRB.out e) (fun k hk e => HRs.out k hk e))
      have HRy := Lib.hid hrd
      have Ht2 := Lib.hid (Ht2.out.turns htu (fun e => HTM2y.out.1 e) (fun e => HTM2y.out.2 e))
      have HTM2 : Hid (T2 < wI.heap.size ∧ M2 < wI.heap.size) := Lib.hid (by have := htu.size; have := HTM2.out; omega)
      have HbI := Lib.hid hb
      clear hrd htb htu hb HbH K1 Ht1 HTB1 hL1
      go_wp2_with fail
      refine Calls.mono (newR 1 (by decide) wI) ?_
      rintro e wJ ⟨Z, zv, rfl, hrd, hb, hB⟩
      have HTB2 : Hid (T2 ≠ Z ∧ M2 ≠ Z) := Lib.hid (by have := HTM2.out; omega)
      have HZ : Hid (w.heap.size ≤ Z) := Lib.hid (Nat.le_trans HbI.out.size hB)
      have Ht2 := Lib.hid (Ht2.out.turns (N := fun _ => False) (Turns.of_below' hb) (fun h => h) (fun h => h))
      have HZr : Hid ((B ≠ Z ∧ Y ≠ Z) ∧ (∀ k, sv.ownBlock = some k → k ≠ Z) ∧ ∀ k, yv.ownBlock = some k → k ≠ Z) := Lib.hid ⟨by have := HRr.out.size; have := HRy.out.size; omega, fun k hk => by have := HRr.out.row.lt k hk; omega, fun k hk => by have := HRy.out.row.lt k hk; omega⟩
      have HRr := Lib.hid (HRr.out.below hb)
      have HRy := Lib.hid (HRy.out.below hb)
      have HRz := Lib.hid hrd
      have HbJ := Lib.hid (Below.thn HbI.out hb)
      clear hrd hb hB HTM2 HbI
      go_wp2_with fail
      refine Calls.mono (readK w HbJ.out HZ.out Ht2.out HRz.out hL2 HTB2.out K2.out) ?_
      rintro e wK ⟨rfl, hrd, htb, htu, hb⟩
      have HRr := Lib.hid (HRr.out.turns htu (fun e => HZr.out.1.1 e) (fun k hk e => HZr.out.2.1 k hk e))
      have HRy := Lib.hid (HRy.out.turns htu (fun e => HZr.out.1.2 e) (fun k hk e => HZr.out.2.2 k hk e))
      have HRz := Lib.hid hrd
      have HbK := Lib.hid hb
      clear hrd htb htu hb HbJ K2 Ht2 HTB2 hL2 HZr
      go_wp2_with fail
      refine Calls.mono (at_any B _ sv _ wK HRr.out) ?_
      rintro e wL ⟨rfl, rfl⟩
      go_wp2_with fail
      refine Calls.mono (at_any Y _ yv _ _ HRy.out) ?_
      rintro e wM ⟨rfl, rfl⟩
      go_wp2_with fail
      refine Calls.mono (at_any Z _ zv _ _ HRz.out) ?_
      rintro e wN ⟨rfl, rfl⟩
      go_wp2_with fail
      refine Calls.mono (again_law _) ?_
      rintro e wO ⟨rfl, hb⟩
      have HbO := Lib.hid (Below.thn HbK.out hb)
      clear hb HbK
      go_wp2_with fail
      refine Calls.mono (codes_law _) ?_
      rintro e wP ⟨rfl, hb⟩
      have HbP := Lib.hid (Below.thn HbO.out hb)
      clear hb HbO
      go_wp2
      go_ret
      exact ⟨rfl, HbP.out⟩

end Go.Proofs.Ytpdfkgdgpofhbaa
