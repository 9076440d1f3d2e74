/- codec: CodecPlain. -/
import Derived.Test.YtoladolgmeanhaaGreatRP2
import Derived.BigQuiet
import Derived.BigRegion
namespace Go.Proofs.YtoladolgmeanhaaGreat
open Go.RowKit
attribute [local go_sem] Oper.semAt_some
set_option maxRecDepth 20000 in
set_option maxHeartbeats 8000000 in
theorem cplain_law (wd ht : Int) (p : Option Addr) (n c : Nat) (l : List Nat) (w : World) (hv : Row encP 1 w (.slice p n c) l) (_h32 : ∀ x ∈ l, x < 4294967296) :
    Makes Tryz.prog 7 #[.agg #[.int .i64 wd, .int .i64 ht, .slice p n c]] w (.bool true) := by
  unfold Makes
  have hlen := hv.lenR
  have Hv := Lib.hid hv
  have Hlen := Lib.hid hlen
  clear hv hlen
  go_enter Tryz.func7, Tryz.ntmps7
  go_upto_region 1 with (fail)
  have hI := ImB.new w wd ht (.slice p n c)
  have hb0 := Below.al1 w (.cells #[.int .i64 wd, .int .i64 ht, .slice p n c] 24)
  generalize w.alloc (.cells #[.int .i64 wd, .int .i64 ht, .slice p n c] 24) = W0 at *
  obtain ⟨B, hB⟩ : ∃ B, w.heap.size = B := ⟨_, rfl⟩
  rw [hB] at hI ⊢
  have Hb0 := Lib.hid hb0
  have HB := Lib.hid hB
  clear hb0 hB
  obtain ⟨c0, c1, c2⟩ := hI.c
  have HI := Lib.hid hI
  by_cases h4 : 4000 < n
  · have d0 : decide ((n : Int) > 4000) = true := by simp; omega
    go_wp2_with fail
    refine Calls.mono (ctells_law _) ?_
    rintro _ w1 ⟨rfl, hb1⟩
    go_wp2
    go_ret
    rw [← HB.out]
    exact ⟨rfl, Below.thn Hb0.out hb1⟩
  have d0 : decide ((n : Int) > 4000) = false := by simp; omega
  obtain ⟨f, hf⟩ : ∃ f, decide (cdM wd ht n) = f := ⟨_, rfl⟩
  have Hf := Lib.hid hf
  go_wp2_with fail
  refine Calls.mono (refMay_any wd ht p n c W0 f hf) ?_
  rintro _ w1 ⟨rfl, hb1⟩
  have Hb1 := Lib.hid (Below.thn Hb0.out hb1)
  obtain ⟨x0, x1, x2⟩ := (HI.out.later hb1).c
  have HI1 := Lib.hid (HI.out.later hb1)
  clear hf hb1 c0 c1 c2
  cases f
  case false =>
    go_wp2_with fail
    refine Calls.mono (ctells_law _) ?_
    rintro _ w2 ⟨rfl, hb2⟩
    go_wp2
    go_ret
    rw [← HB.out]
    exact ⟨rfl, Below.thn Hb1.out hb2⟩
  have HM : Hid (cdM wd ht n) := Lib.hid (of_decide_eq_true Hf.out)
  have hn1 := (cd_nat HM.out).1
  clear hI
  go_wp2_with fail
  refine Calls.mono (plain_w (Hv.out.below Hb1.out) (by omega)) ?_
  rintro _ w2 ⟨p2, c2, rfl, hb2, hr2⟩
  have HR2 := Lib.hid hr2
  have Hb2 := Lib.hid (Below.thn Hb1.out hb2)
  obtain ⟨y0, y1, y2⟩ := (HI1.out.later hb2).c
  have HI2 := Lib.hid (HI1.out.later hb2)
  obtain ⟨m, hm⟩ : ∃ m, 3 * n = m := ⟨_, rfl⟩
  have Hm := Lib.hid hm
  have hm1 : 3 ≤ m := by omega
  have hm2 : m ≤ 12000 := by omega
  rw [hm] at HR2 ⊢
  have HC : Hid (CdR 1 (cdP l) n (some (l.map rlw))) := Lib.hid (.inl ⟨rfl, by rw [if_pos (by rw [cdP_len, Hlen.out]), cdP_tri]⟩)
  clear hb2 hr2 x0 x1 x2 hm
  go_wp2_with fail
  refine Calls.mono (cdec_row 1 wd ht (HR2.out w2 (Below.refl _ _)) (by decide) (cdP_256 l) (by omega)) ?_
  rintro e w3 ⟨hb3, hD⟩
  obtain ⟨p3, c3, rfl, ho3⟩ := hD.yes HM.out (by decide) HC.out
  rw [List.length_map, Hlen.out] at ho3 ⊢
  have hx3 := own_rowP ho3
  have Hb3 := Lib.hid (Below.thn Hb2.out hb3)
  have HI3 := Lib.hid (HI2.out.later hb3)
  have HR3 := Lib.hid (HR2.out _ hb3)
  have HX3 := Lib.hid hx3
  clear hb3 hD ho3 hx3 y0 y1 y2
  go_upto_region 5 with (fail)
  have hbx := Below.al1 w3 (.cells #[.int .i64 wd, .int .i64 ht, .slice p3 n c3] 24)
  have hIx := ImB.new w3 wd ht (.slice p3 n c3)
  generalize w3.alloc (.cells #[.int .i64 wd, .int .i64 ht, .slice p3 n c3] 24) = w4 at *
  have Hb4 := Lib.hid (Below.thn Hb3.out hbx)
  have HI4 := Lib.hid (HI3.out.later hbx)
  have HX4 := Lib.hid (HX3.out.below hbx)
  have hr4 := HR3.out.below hbx
  have HIx := Lib.hid hIx
  obtain ⟨z0, z1, z2⟩ := HI4.out.c
  obtain ⟨g2, o2, e2, -⟩ := hr4.row.at'.1.bytes (by rw [cdP_len, Hlen.out]; omega)
  subst e2
  obtain ⟨p5, c5, hsl, hrow5, hc5, hc5', hp5⟩ := pslice_tail8 (S := 1) hr4.row.at'.1 (n := m) (c := c2) (by rw [cdP_len, Hlen.out]; exact Hm.out) (by omega) (by have := hr4.row.at'.2; rw [cdP_len, Hlen.out, Hm.out] at this; exact this)
  have hl5 : ((cdP l).drop 1).length = m - 1 := by rw [List.length_drop, cdP_len, Hlen.out, Hm.out]
  have HR5 : Hid (Rw8 w4 (.slice p5 (m - 1) c5) ((cdP l).drop 1)) := Lib.hid ⟨⟨p5, c5, by rw [hl5], by rw [hl5]; exact hc5, by have := row_cap hr4.row; omega, hrow5⟩, fun c h => absurd (by injection h) hp5⟩
  have HC5 : Hid (CdR 1 ((cdP l).drop 1) n none) := Lib.hid (.inl ⟨rfl, by rw [if_neg (by rw [hl5]; have := Hm.out; omega)]⟩)
  have HD5 : Hid (∀ k : After w4, Makes Tryz.prog 16 #[.int .u8 1, .int .i64 wd, .int .i64 ht, .slice p5 (m - 1) c5] k.world (.tuple #[.agg #[.int .i64 0, .int .i64 0, .slice none 0 0], .int .i64 131])) := Lib.hid (fun k =>
    Calls.mono (cdec_row 1 wd ht (HR5.out.below k.below) (by decide) (fun x hx => cdP_256 l x (List.mem_of_mem_drop hx)) (by omega)) (by
      rintro e w' ⟨hb, hD⟩
      exact ⟨hD.no HM.out (by decide) HC5.out, hb⟩))
  have hsl' : ∀ w' : World, (Instr.slice 25 (.slice (some ⟨g2, o2, none⟩) m c2) (some (.int .i64 1)) none none).run Tryz.prog w' = .ok (.slice p5 (m - 1) c5) w' := hsl
  have HIx' := HIx
  clear hsl hrow5 hc5 hc5' hp5 hl5 hr4 hbx hIx
  obtain ⟨C, hC⟩ : ∃ C : World → Prop, C = fun w' => Below w4.heap.size w4 w' := ⟨_, rfl⟩
  have hCst : StaysC C := by
    rw [hC]
    exact fun w w' h hb => Below.thn h hb
  have hCi : ∀ w, C w → Below w4.heap.size w4 w := by
    rw [hC]
    exact fun _ h => h
  have hC0 : C w4 := by rw [hC]; exact Below.refl _ _
  have hK0 : StaysC (fun _ : World => True) := fun _ _ _ _ => trivial
  have q0 : ∀ n : InC C, n.world.cell? ⟨B, 0, none⟩ = some (.int .i64 wd) := fun n => cell_later (hCi _ n.ok) z0
  have q1 : ∀ n : InC C, n.world.cell? ⟨B, 1, none⟩ = some (.int .i64 ht) := fun n => cell_later (hCi _ n.ok) z1
  have hqq : Nonempty (InC C) := ⟨⟨w4, hC0⟩⟩
  have HCi := Lib.hid hCi
  have HCe := Lib.hid hC
  clear z0 z1 z2 hC hCi
  refine wp_region_chainT 10 12 C (fun _ => True) (by kernel_rfl) (by decide) (by kernel_rfl) (by kernel_rfl) (by kernel_rfl) hCst hC0 hK0 trivial ?_
  repeat (refine LqC_on (fun K hK => ?_); go_simp; first | (refine hK _ ?_; clear hK K) | (apply Exists.intro; refine ⟨fun n => ?_, hK _ ?_⟩; (go_at_call 16; exact HD5.out ⟨n.world, HCi.out _ n.ok⟩); clear hK K))
  refine LqC_nil ?_
  simp only [List.take_succ_cons, List.take_zero, List.drop_succ_cons, List.drop_zero]
  refine ChC_alloc rfl w4.heap.size (.cells #[.int .i64 0, .int .i64 0, .slice none 0 0] 24) ?hrun hCst hK0 (fun w hw => (HCi.out w hw).size) (fun v => ?_)
  case hrun =>
    intro w'
    first
      | rfl
      | (go_simp; done)
      | kernel_rfl
  refine ChC_storeRow rfl 24 (.tmp 6) (.tmp 38) rfl rfl v #[.int .i64 0, .int .i64 0, .slice none 0 0] rfl rfl 24 w4.heap.size #[.int .i64 0, .int .i64 0, .slice none 0 0] (fun w h => h.2) (by kernel_rfl) rfl (by kernel_rfl) ?hC ?_
  case hC =>
    intro w B hw hB _
    rw [HCe.out]
    exact below_setRow (HCi.out w hw) hB _
  intro w5 hw5 hk5
  obtain ⟨B5, rfl, hB5, hT5⟩ := hk5
  have hb5 := HCi.out w5 hw5
  have Hb5 := Lib.hid hb5
  clear hw5 hB5 hT5 hCst hC0 hK0 hqq q0 q1
  obtain ⟨u0, u1, u2⟩ := (HI4.out.later hb5).c
  obtain ⟨t0, t1, t2⟩ := (HIx'.out.later hb5).c
  clear hb5
  have HV5 := Lib.hid (Hv.out.below (Below.thn Hb4.out Hb5.out))
  have HX5 := Lib.hid (HX4.out.below Hb5.out)
  have HCut := Lib.hid (cut_w (wd := wd) (ht := ht) HV5.out (by omega))
  have HT := Lib.hid (tells_w (w0 := w5))
  have HS : Hid (∀ W (p' : Option Addr) (c' : Nat), Below w5.heap.size w5 W → Row encP 1 W (.slice p' n c') (l.map rlw) → Calls Tryz.prog 14 #[.agg #[.int .i64 wd, .int .i64 ht, .slice p3 n c3], .agg #[.int .i64 wd, .int .i64 ht, .slice p' n c']] W fun e w' => e = .returned (.bool true) ∧ Below w5.heap.size w5 w') := Lib.hid (fun W p' c' hW hr =>
    Calls.mono (same_w (HX5.out.below hW) hr (by omega) (by omega) true (by simp)) (by
      rintro _ w' ⟨rfl, hb⟩
      exact ⟨rfl, Below.thn hW hb⟩))
  go_simp
  go_upto_region 6 with (fail)
  go_region_with (first
    | (go_at_call 19; refine Calls.mono (HCut.out _ (Below.drew (Below.refl _ _))) ?_; rintro _ wc ⟨pc, cc, rfl, hbc, hsc, hrc⟩; have a0 := cell_later hbc t0; have a1 := cell_later hbc t1; have a2 := cell_later hbc t2)
    | (go_at_call 14; refine Calls.mono (HS.out _ _ _ hbc (hrc _ (Below.refl _ _))) ?_; rintro _ ws ⟨rfl, hbs⟩)
    | (go_at_call 15; refine Calls.mono (HT.out _ hbs) ?_; rintro _ wt ⟨rfl, hbt⟩))
  all_goals
    go_wp2
    go_ret
    rw [← HB.out]
    exact ⟨rfl, Below.thn Hb4.out (Below.thn Hb5.out hbt)⟩
end Go.Proofs.YtoladolgmeanhaaGreat
