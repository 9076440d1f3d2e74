/- Several texts in one, each with its own head. -/
import Derived.Test.YtoladolgmeanhaaGreatRR3
import Derived.BigQuiet
import Derived.BigRegion
import Derived.Deep.Slices
namespace Go.Proofs.YtoladolgmeanhaaGreat
open Go.RowKit
attribute [local go_sem] Oper.semAt_some
def CutP (wd ht : Int) (n : Nat) (L : List Nat) (v : Value) (w : World) : Prop := ∃ pc cc, v = .agg #[.int .i64 wd, .int .i64 ht, .slice pc n cc] ∧ Row encP 1 w (.slice pc n cc) L
theorem CutP.stays (wd ht : Int) (n : Nat) (L : List Nat) (v : Value) : StaysC (CutP wd ht n L v) := fun _ _ ⟨pc, cc, e, h⟩ hb => ⟨pc, cc, e, h.below hb⟩
end Go.Proofs.YtoladolgmeanhaaGreat

namespace Go.Proofs.YtoladolgmeanhaaGreat
open Go.RowKit
attribute [local go_sem] Oper.semAt_some
theorem cdM_comm {wd ht : Int} {n : Nat} (h : cdM wd ht n) : cdM ht wd n := ⟨h.2.1, h.1, h.2.2.2.1, h.2.2.1, by rw [Int.mul_comm]; exact h.2.2.2.2⟩
set_option maxRecDepth 20000 in
set_option maxHeartbeats 16000000 in
theorem crows_law (wd ht : Int) (p : Option Addr) (n c : Nat) (l : List Nat) (w : World) (hv : Row encP 1 w (.slice p n c) l) (h32 : ∀ x ∈ l, x < 4294967296) :
    Makes Tryz.prog 9 #[.agg #[.int .i64 wd, .int .i64 ht, .slice p n c]] w (.bool true) := by
  unfold Makes
  have hlen := hv.lenR
  have Hv := Lib.hid hv
  have Hlen := Lib.hid hlen
  have H32 := Lib.hid h32
  clear hv hlen h32
  go_enter Tryz.func9, Tryz.ntmps9
  go_upto_region 1 with (fail)
  have hI := ImB.new w wd ht (.slice p n c)
  have hb0 := Below.al1 w (.cells #[.int .i64 wd, .int .i64 ht, .slice p n c] 24)
  generalize w.alloc (.cells #[.int .i64 wd, .int .i64 ht, .slice p n c] 24) = W0 at *
  obtain ⟨B, hB⟩ : ∃ B, w.heap.size = B := ⟨_, rfl⟩
  rw [hB] at hI ⊢
  have Hb0 := Lib.hid hb0
  have HB := Lib.hid hB
  clear hb0 hB
  obtain ⟨c0, c1, c2⟩ := hI.c
  have HI := Lib.hid hI
  by_cases h4 : 4000 < n
  · have d0 : decide ((n : Int) > 4000) = true := by simp; omega
    go_wp2_with fail
    refine Calls.mono (ctells_law _) ?_
    rintro _ w1 ⟨rfl, hb1⟩
    go_wp2
    go_ret
    rw [← HB.out]
    exact ⟨rfl, Below.thn Hb0.out hb1⟩
  have d0 : decide ((n : Int) > 4000) = false := by simp; omega
  obtain ⟨f, hf⟩ : ∃ f, decide (cdM wd ht n) = f := ⟨_, rfl⟩
  have Hf := Lib.hid hf
  go_wp2_with fail
  refine Calls.mono (refMay_any wd ht p n c W0 f hf) ?_
  rintro _ w1 ⟨rfl, hb1⟩
  have Hb1 := Lib.hid (Below.thn Hb0.out hb1)
  obtain ⟨x0, x1, x2⟩ := (HI.out.later hb1).c
  have HI1 := Lib.hid (HI.out.later hb1)
  clear hf hb1 c0 c1 c2
  cases f
  case false =>
    go_wp2_with fail
    refine Calls.mono (ctells_law _) ?_
    rintro _ w2 ⟨rfl, hb2⟩
    go_wp2
    go_ret
    rw [← HB.out]
    exact ⟨rfl, Below.thn Hb1.out hb2⟩
  have HM : Hid (cdM wd ht n) := Lib.hid (of_decide_eq_true Hf.out)
  have HM2 := Lib.hid (cdM_comm HM.out)
  clear hI
  go_upto_region 4 with (fail)
  have hbo := Below.al1 w1 (.cells #[.int .i64 ht, .int .i64 wd, .slice p n c] 24)
  have hIo := ImB.new w1 ht wd (.slice p n c)
  generalize w1.alloc (.cells #[.int .i64 ht, .int .i64 wd, .slice p n c] 24) = w2 at *
  obtain ⟨Bo, hBo⟩ : ∃ B, w1.heap.size = B := ⟨_, rfl⟩
  rw [hBo] at hIo ⊢
  have Hb2 := Lib.hid (Below.thn Hb1.out hbo)
  have HI2 := Lib.hid (HI1.out.later hbo)
  have HIo := Lib.hid hIo
  obtain ⟨y0, y1, y2⟩ := HI2.out.c
  clear x0 x1 x2 hbo hIo hBo
  go_wp2_with fail
  refine Calls.mono (cenc_row wd ht (Hv.out.below Hb2.out) H32.out) ?_
  rintro e w3 ⟨hb3, ⟨h, -⟩ | ⟨-, S, p3, c3, hS, rfl, ho3⟩⟩
  · exact absurd HM.out h
  have HS := Lib.hid hS
  have HC := Lib.hid (cdE_reads hS (by rw [Hlen.out]; omega))
  rw [Hlen.out] at HC
  have Hkd := Lib.hid (cdE_kind l S)
  have hEl := cdE_len l S
  rw [Hlen.out] at hEl
  have H8 : Hid (∀ x ∈ (cdE l S).2, x < 256) := Lib.hid (by
    obtain ⟨j, hj, e, his⟩ := cdE_is l S
    rw [e]
    obtain rfl | rfl | rfl | rfl : j = 0 ∨ j = 1 ∨ j = 2 ∨ j = 3 := by omega
    · exact cdP_256 l
    · intro x hx
      obtain ⟨r, hr, hx⟩ := List.mem_flatMap.1 hx
      have := rl_ok l r hr
      unfold RlOk at this
      simp only [rlB, List.mem_cons, List.not_mem_nil, or_false] at hx
      rcases hx with rfl | rfl | rfl | rfl <;> omega
    · exact plE_256 l
    · exact hS.lt)
  obtain ⟨E, hE⟩ : ∃ E, cdE l S = E := ⟨_, rfl⟩
  rw [hE] at HC Hkd hEl H8 ho3 ⊢
  have HE := Lib.hid hE
  obtain ⟨k, b⟩ := E
  dsimp only at HC Hkd hEl H8 ho3 ⊢
  have Hrb := Lib.hid (Rw8.own ho3 rfl)
  have Hb3 := Lib.hid (Below.thn Hb2.out hb3)
  have HI3 := Lib.hid (HI2.out.later hb3)
  have HIo3 := Lib.hid (HIo.out.later hb3)
  obtain ⟨z0, z1, z2⟩ := HIo3.out.c
  clear hb3 hS ho3 hE y0 y1 y2
  go_wp2_with fail
  refine Calls.mono (cenc_row ht wd (Hv.out.below Hb3.out) H32.out) ?_
  rintro e w4 ⟨hb4, ⟨h, -⟩ | ⟨-, S', p4, c4, hS, rfl, ho4⟩⟩
  · exact absurd HM2.out h
  obtain rfl := HS.out.det hS
  rw [HE.out] at ho4 ⊢
  dsimp only at ho4 ⊢
  have Hrc := Lib.hid (Rw8.own ho4 rfl)
  have Hb4 := Lib.hid (Below.thn Hb3.out hb4)
  have HI4 := Lib.hid (HI3.out.later hb4)
  have HIo4 := Lib.hid (HIo3.out.later hb4)
  have Hrb4 := Lib.hid (Hrb.out.below hb4)
  obtain ⟨a0, a1, a2⟩ := HI4.out.c
  obtain ⟨m, hm⟩ : ∃ m, b.length = m := ⟨_, rfl⟩
  rw [hm] at hEl Hrc Hrb4 ⊢
  have hk256 : k < 256 := by have := Hkd.out; omega
  clear hb4 hS ho4 z0 z1 z2 Hrb hm
  go_wp2_with fail
  refine Calls.mono (cdec_row k wd ht (Hrc.out) hk256 H8.out (by omega)) ?_
  rintro e w5 ⟨hb5, hD⟩
  obtain ⟨p5, c5, rfl, ho5⟩ := hD.yes HM.out Hkd.out HC.out
  rw [List.length_map, Hlen.out] at ho5 ⊢
  have HX5 := Lib.hid (own_rowP ho5)
  have Hb5 := Lib.hid (Below.thn Hb4.out hb5)
  have HI5 := Lib.hid (HI4.out.later hb5)
  have HIo5 := Lib.hid (HIo4.out.later hb5)
  have Hrb5 := Lib.hid (Hrb4.out.below hb5)
  have Hrc5 := Lib.hid (Hrc.out.below hb5)
  clear hb5 hD ho5 a0 a1 a2
  go_upto_region 7 with (fail)
  have hbx := Below.al1 w5 (.cells #[.int .i64 wd, .int .i64 ht, .slice p5 n c5] 24)
  have hIx := ImB.new w5 wd ht (.slice p5 n c5)
  generalize w5.alloc (.cells #[.int .i64 wd, .int .i64 ht, .slice p5 n c5] 24) = w6 at *
  obtain ⟨Bx, hBx⟩ : ∃ B, w5.heap.size = B := ⟨_, rfl⟩
  rw [hBx] at hIx ⊢
  have Hb6 := Lib.hid (Below.thn Hb5.out hbx)
  have HI6 := Lib.hid (HI5.out.later hbx)
  have HIo6 := Lib.hid (HIo5.out.later hbx)
  have Hrb6 := Lib.hid (Hrb5.out.below hbx)
  have Hrc6 := Lib.hid (Hrc5.out.below hbx)
  have HX6 := Lib.hid (HX5.out.below hbx)
  have HIx := Lib.hid hIx
  obtain ⟨z0, z1, z2⟩ := HIo6.out.c
  clear hbx hIx hBx
  go_wp2_with fail
  refine Calls.mono (cdec_row k ht wd (Hrb6.out) hk256 H8.out (by omega)) ?_
  rintro e w7 ⟨hb7, hD⟩
  obtain ⟨p7, c7, rfl, ho7⟩ := hD.yes HM2.out Hkd.out HC.out
  rw [List.length_map, Hlen.out] at ho7 ⊢
  have HY7 := Lib.hid (own_rowP ho7)
  have Hb7 := Lib.hid (Below.thn Hb6.out hb7)
  have HI7 := Lib.hid (HI6.out.later hb7)
  have HIo7 := Lib.hid (HIo6.out.later hb7)
  have HIx7 := Lib.hid (HIx.out.later hb7)
  have HX7 := Lib.hid (HX6.out.below hb7)
  have Hrb7 := Lib.hid (Hrb6.out.below hb7)
  have Hrc7 := Lib.hid (Hrc6.out.below hb7)
  clear hb7 hD ho7 z0 z1 z2
  go_upto_region 8 with (fail)
  have hby := Below.al1 w7 (.cells #[.int .i64 ht, .int .i64 wd, .slice p7 n c7] 24)
  have hIy := ImB.new w7 ht wd (.slice p7 n c7)
  generalize w7.alloc (.cells #[.int .i64 ht, .int .i64 wd, .slice p7 n c7] 24) = w8 at *
  obtain ⟨By, hBy⟩ : ∃ B, w7.heap.size = B := ⟨_, rfl⟩
  rw [hBy] at hIy ⊢
  have Hb8 := Lib.hid (Below.thn Hb7.out hby)
  have hI8 := HI7.out.later hby
  have hIo8 := HIo7.out.later hby
  have hIx8 := HIx7.out.later hby
  have HX8 := Lib.hid (HX7.out.below hby)
  have HY8 := Lib.hid (HY7.out.below hby)
  have hsb := fun W (hW : Below w8.heap.size w8 W) => strR_row ((Hrb7.out.below hby).below hW).row
  have hsc := fun W (hW : Below w8.heap.size w8 W) => strR_row ((Hrc7.out.below hby).below hW).row
  obtain ⟨X, hX⟩ : ∃ X, strR b = X := ⟨_, rfl⟩
  rw [hX] at hsb hsc
  obtain ⟨i0, i1, i2⟩ := hI8.c
  obtain ⟨o0, o1, o2⟩ := hIo8.c
  obtain ⟨x0, x1, x2⟩ := hIx8.c
  obtain ⟨y0, y1, y2⟩ := hIy.c
  have HV8 := Lib.hid (Hv.out.below Hb8.out)
  have HCut1 := Lib.hid (cut_w (wd := wd) (ht := ht) HV8.out (by omega))
  have HCut2 := Lib.hid (cut_w (wd := ht) (ht := wd) HV8.out (by omega))
  have HT := Lib.hid (tells_w (w0 := w8))
  have HS1 : Hid (∀ W (p' : Option Addr) (c' : Nat), Below w8.heap.size w8 W → Row encP 1 W (.slice p' n c') (l.map rlw) → Calls Tryz.prog 14 #[.agg #[.int .i64 wd, .int .i64 ht, .slice p5 n c5], .agg #[.int .i64 wd, .int .i64 ht, .slice p' n c']] W fun e w' => e = .returned (.bool true) ∧ Below w8.heap.size w8 w') := Lib.hid (fun W p' c' hW hr =>
    Calls.mono (same_w (HX8.out.below hW) hr (by omega) (by omega) true (by simp)) (by
      rintro _ w' ⟨rfl, hb⟩
      exact ⟨rfl, Below.thn hW hb⟩))
  have HS2 : Hid (∀ W (p' : Option Addr) (c' : Nat), Below w8.heap.size w8 W → Row encP 1 W (.slice p' n c') (l.map rlw) → Calls Tryz.prog 14 #[.agg #[.int .i64 ht, .int .i64 wd, .slice p7 n c7], .agg #[.int .i64 ht, .int .i64 wd, .slice p' n c']] W fun e w' => e = .returned (.bool true) ∧ Below w8.heap.size w8 w') := Lib.hid (fun W p' c' hW hr =>
    Calls.mono (same_w (HY8.out.below hW) hr (by omega) (by omega) true (by simp)) (by
      rintro _ w' ⟨rfl, hb⟩
      exact ⟨rfl, Below.thn hW hb⟩))
  obtain ⟨C, hC⟩ : ∃ C : World → Prop, C = fun w' => Below w8.heap.size w8 w' := ⟨_, rfl⟩
  have hCst : StaysC C := by
    rw [hC]
    exact fun w w' h hb => Below.thn h hb
  have hCi : ∀ w, C w → Below w8.heap.size w8 w := by
    rw [hC]
    exact fun _ h => h
  have hCo : ∀ w, Below w8.heap.size w8 w → C w := by
    rw [hC]
    exact fun _ h => h
  have hC0 : C { w8 with drawn := w8.drawn + 1 } := hCo _ (Below.drew (Below.refl _ _))
  have q0 : ∀ k : InC C, k.world.cell? ⟨B, 0, none⟩ = some (.int .i64 wd) := fun k => cell_later (hCi _ k.ok) i0
  have q1 : ∀ k : InC C, k.world.cell? ⟨B, 1, none⟩ = some (.int .i64 ht) := fun k => cell_later (hCi _ k.ok) i1
  have q2 : ∀ k : InC C, k.world.cell? ⟨B, 2, none⟩ = some (.slice p n c) := fun k => cell_later (hCi _ k.ok) i2
  have q3 : ∀ k : InC C, k.world.cell? ⟨Bo, 0, none⟩ = some (.int .i64 ht) := fun k => cell_later (hCi _ k.ok) o0
  have q4 : ∀ k : InC C, k.world.cell? ⟨Bo, 1, none⟩ = some (.int .i64 wd) := fun k => cell_later (hCi _ k.ok) o1
  have q5 : ∀ k : InC C, k.world.cell? ⟨Bo, 2, none⟩ = some (.slice p n c) := fun k => cell_later (hCi _ k.ok) o2
  have q6 : ∀ k : InC C, k.world.cell? ⟨Bx, 0, none⟩ = some (.int .i64 wd) := fun k => cell_later (hCi _ k.ok) x0
  have q7 : ∀ k : InC C, k.world.cell? ⟨Bx, 1, none⟩ = some (.int .i64 ht) := fun k => cell_later (hCi _ k.ok) x1
  have q8 : ∀ k : InC C, k.world.cell? ⟨Bx, 2, none⟩ = some (.slice p5 n c5) := fun k => cell_later (hCi _ k.ok) x2
  have q9 : ∀ k : InC C, k.world.cell? ⟨By, 0, none⟩ = some (.int .i64 ht) := fun k => cell_later (hCi _ k.ok) y0
  have qa : ∀ k : InC C, k.world.cell? ⟨By, 1, none⟩ = some (.int .i64 wd) := fun k => cell_later (hCi _ k.ok) y1
  have qb : ∀ k : InC C, k.world.cell? ⟨By, 2, none⟩ = some (.slice p7 n c7) := fun k => cell_later (hCi _ k.ok) y2
  have qs : ∀ k : InC C, (convert 25 9 (.slice p3 m c3)).run Tryz.prog k.world = .ok (.string X) k.world := fun k => hsb _ (hCi _ k.ok)
  have qt : ∀ k : InC C, (convert 25 9 (.slice p4 m c4)).run Tryz.prog k.world = .ok (.string X) k.world := fun k => hsc _ (hCi _ k.ok)
  have hqq : Nonempty (InC C) := ⟨⟨_, hC0⟩⟩
  have HCi := Lib.hid hCi
  have HCo := Lib.hid hCo
  clear hC hCi hCo i0 i1 i2 o0 o1 o2 x0 x1 x2 y0 y1 y2 hsb hsc hby hI8 hIo8 hIx8 hIy hBy hX hEl
  refine region_parts (by kernel_rfl) ?_
  refine part_any 0 29 31 C (fun _ => True) (by decide) (by decide) (by kernel_rfl) (by kernel_rfl) hCst hC0 (fun _ _ _ _ => trivial) trivial ?_
  simp only [List.take_succ_cons, List.take_zero, List.drop_succ_cons, List.drop_zero]
  repeat (refine LqC_on (fun K hK => ?_); go_simp; (refine hK _ ?_; clear hK K))
  refine LqC_nil ?_
  refine ChG_call (by rfl) 19 #[.agg #[.int .i64 wd, .int .i64 ht, .slice p n c]] (fun w => by first | (go_simp; done) | kernel_rfl) (CutP wd ht n (l.map rlw)) (fun v => CutP.stays wd ht n (l.map rlw) v) (fun W hW _ => ?_) (fun v1 => ?_)
  · refine Calls.mono (HCut1.out W (HCi.out W hW)) ?_
    rintro _ w' ⟨pc, cc, rfl, hbc, hsc, hrc⟩
    exact ⟨_, rfl, HCo.out _ hbc, pc, cc, rfl, hrc _ (Below.refl _ _)⟩
  refine ChG_call (by rfl) 14 #[.agg #[.int .i64 wd, .int .i64 ht, .slice p5 n c5], v1] (fun w => by first | (go_simp; done) | kernel_rfl) (fun v _ => v = .bool true) (fun v _ _ h _ => h) (fun W hW hk => ?_) (fun v2 => ?_)
  · obtain ⟨pc, cc, rfl, hr⟩ := hk
    refine Calls.mono (HS1.out W pc cc (HCi.out W hW) hr) ?_
    rintro _ w' ⟨rfl, hbs⟩
    exact ⟨_, rfl, HCo.out _ hbs, rfl⟩
  rintro w9 hw9 rfl
  refine part_any 31 35 37 C (fun _ => True) (by decide) (by decide) (by kernel_rfl) (by kernel_rfl) hCst hw9 (fun _ _ _ _ => trivial) trivial ?_
  simp only [List.take_succ_cons, List.take_zero, List.drop_succ_cons, List.drop_zero, Act.put]
  go_simp
  repeat (refine LqC_on (fun K hK => ?_); go_simp; (refine hK _ ?_; clear hK K))
  refine LqC_nil ?_
  refine ChG_call (by rfl) 19 #[.agg #[.int .i64 ht, .int .i64 wd, .slice p n c]] (fun w => by first | (go_simp; done) | kernel_rfl) (CutP ht wd n (l.map rlw)) (fun v => CutP.stays ht wd n (l.map rlw) v) (fun W hW _ => ?_) (fun v3 => ?_)
  · refine Calls.mono (HCut2.out W (HCi.out W hW)) ?_
    rintro _ w' ⟨pc, cc, rfl, hbc, hsc, hrc⟩
    exact ⟨_, rfl, HCo.out _ hbc, pc, cc, rfl, hrc _ (Below.refl _ _)⟩
  refine ChG_call (by rfl) 14 #[.agg #[.int .i64 ht, .int .i64 wd, .slice p7 n c7], v3] (fun w => by first | (go_simp; done) | kernel_rfl) (fun v _ => v = .bool true) (fun v _ _ h _ => h) (fun W hW hk => ?_) (fun v4 => ?_)
  · obtain ⟨pc, cc, rfl, hr⟩ := hk
    refine Calls.mono (HS2.out W pc cc (HCi.out W hW) hr) ?_
    rintro _ w' ⟨rfl, hbs⟩
    exact ⟨_, rfl, HCo.out _ hbs, rfl⟩
  rintro w10 hw10 rfl
  have hb10 := HCi.out w10 hw10
  have Hb10 := Lib.hid (Below.thn Hb8.out hb10)
  have hne := After.ne w10
  clear hqq q0 q1 q2 q3 q4 q5 q6 q7 q8 q9 qa qb qs qt hC0 hCst hw10 hb10 hw9
  refine part_quiet 37 (fun w' => ∃ k : After w10, w' = k.world) (by kernel_rfl) (by kernel_rfl) ⟨⟨w10, Below.refl _ _⟩, rfl⟩ ?_
  simp only [List.drop_succ_cons, List.drop_zero, Act.put]
  go_simp
  repeat (go_big_quiet_step ((first | (go_at_call 15; exact Makes.after (ctells_law _)))))
  refine wpQuiet_nil ?_
  rintro ⟨w11, hb11⟩
  dsimp only
  go_wp2
  go_ret
  rw [← HB.out]
  exact ⟨rfl, Below.thn Hb10.out hb11⟩
end Go.Proofs.YtoladolgmeanhaaGreat

namespace Go.Proofs.YtoladolgmeanhaaGreat
open Go.ChangeShapes Go.WideShapes Go.ChangeAt Go.RowKit Go.Joins Go.Deep
theorem iv_cellsD : Tryz.prog.cellsOf 24 = 3 := by kernel_rfl
set_option maxRecDepth 100000 in
theorem open_u32sD {H : Type} {enc : TypeId × Value → H} {W : World} {base n : Nat} {v : Value} {y : DataW H × List MemPlace} (hv : Cell.okWide Tryz.prog W .any base 22 v) (h : DataW.trod enc Tryz.prog W 0 (fun _ => true) true n 22 [v] = some y) :
    ∃ (p : Option Addr) (c : Nat) (S : List Nat), v = .slice p S.length c ∧ RowAt encP 1 W p S ∧ (∀ v ∈ S, v < 4294967296) ∧ S.length ≤ c ∧ c ≤ 9223372036854775807 ∧ (p = none → c = 0) := by
  rcases open_slice1 Tryz.underlying22 (by kernel_rfl) h with ⟨hcs, -⟩ | ⟨a, len, cap, m, n, V, D, Pl, hcs, hb, hl, hm, hmm, hx, hi⟩
  · simp at hcs
    subst hcs
    exact ⟨none, 0, [], rfl, .inl ⟨rfl, rfl⟩, fun v h => (by cases h), Nat.le_refl _, by decide, fun _ => rfl⟩
  · simp at hcs
    subst hcs
    have hh : W.has Tryz.prog .any base a 41 cap := by
      have h1 := hv
      simp only [Cell.okWide, Tryz.underlying22, Cell.ok] at h1
      exact h1.2.2
    obtain ⟨-, hspot, row, cells, hsh, -⟩ := hh
    have hlt : a.block < W.heap.size := by
      unfold World.shape? at hsh
      cases hq : W.heap[a.block]? with
      | none => rw [hq] at hsh; cases hsh
      | some o => exact (Array.getElem?_eq_some_iff.1 hq).1
    obtain ⟨ab, ao, asp⟩ := a
    dsimp only at hspot hlt
    subst hspot
    have H : ∀ i, i < len → ∃ x : Nat, x < 4294967296 ∧ W.cell? ⟨ab, ao + i, none⟩ = some (.int .u32 (x : Int)) := fun i him => by
      obtain ⟨hc, ht⟩ := hi i (by rw [hmm]; simp; omega)
      obtain ⟨x, e, -, wx⟩ := DataW.trod_int Tryz.underlying41 ht
      simp at e
      rw [e] at hc
      rw [Addr.add_lit] at hc
      have hw := wf_u32b wx
      exact ⟨x.toNat, by omega, by rw [Int.toNat_of_nonneg hw.1]; exact hc⟩
    obtain ⟨f, hf'⟩ : ∃ f : Nat → Nat, ∀ i, i < len → f i < 4294967296 ∧ W.cell? ⟨ab, ao + i, none⟩ = some (.int .u32 (f i : Int)) := by
      classical
      refine ⟨fun i => if h : i < len then Classical.choose (H i h) else default, fun i him => ?_⟩
      simp only [him, dif_pos]
      exact Classical.choose_spec (H i him)
    have hln : ((List.range len).map f).length = len := by simp
    refine ⟨some ⟨ab, ao, none⟩, cap, (List.range len).map f, by rw [hln], .inr ⟨_, _, rfl, hlt, fun i x hx j u hu => ?_⟩, fun v hv => ?_, by rw [hln]; exact hl, hm, fun h => by cases h⟩
    · rw [List.getElem?_map] at hx
      cases hr : (List.range len)[i]? with
      | none => rw [hr] at hx; cases hx
      | some q =>
        rw [hr] at hx
        obtain ⟨hlt2, hq⟩ := List.getElem?_eq_some_iff.1 hr
        rw [List.getElem_range] at hq
        subst hq
        cases hx
        obtain ⟨hj, hju⟩ := List.getElem?_eq_some_iff.1 hu
        have hj0 : j = 0 := by simp [encP] at hj; omega
        subst hj0
        simp [encP] at hju
        subst hju
        have := (hf' i (by simpa using hlt2)).2
        simpa [pxv] using this
    · obtain ⟨i, hi', rfl⟩ := List.mem_map.1 hv
      exact (hf' i (by simpa using hi')).1
set_option maxRecDepth 100000 in
theorem open_imgD {H : Type} {enc : TypeId × Value → H} {W : World} {base : Nat} {v : Value} {d : DataW H} {p : List MemPlace} (hv : Value.okWide Tryz.prog W .any base 24 v) (h : DataW.Trod enc Tryz.prog W 0 (fun _ => true) true 24 v d p) :
    ∃ (wd ht : Int) (q : Option Addr) (n c : Nat) (S : List Nat), v = .agg #[.int .i64 wd, .int .i64 ht, .slice q n c] ∧ RwP W (.slice q n c) S ∧ (∀ x ∈ S, x < 4294967296) := by
  obtain ⟨v0, v1, v2, y0, y1, y2, n, rfl, rfl, rfl, h0, h1, h2⟩ := open_agg3 Tryz.underlying24 (by kernel_rfl) iv_cellsD hv h
  obtain ⟨a, e0, -, wa⟩ := DataW.trod_int Tryz.underlying3 h0
  obtain ⟨b, e1, -, wb⟩ := DataW.trod_int Tryz.underlying3 h1
  simp at e0 e1
  subst e0 e1
  have hc : Cell.okWide Tryz.prog W .any base 22 v2 := by
    have h3 := hv
    unfold Value.okWide at h3
    rw [Tryz.underlying24] at h3
    obtain ⟨cs, hcs, -, ts, hts, -, hall⟩ := h3
    cases hcs
    have ht : Tryz.prog.cellTypes Tryz.prog.depth 24 = some [3, 3, 22] := by kernel_rfl
    rw [ht] at hts
    cases hts
    obtain ⟨u, hu, hok⟩ := hall 2 v2 rfl
    cases hu
    exact hok
  obtain ⟨q, c, S, rfl, hr, hu, hl, hm, hz⟩ := open_u32sD hc h2
  exact ⟨a, b, q, S.length, c, S, rfl, ⟨⟨q, c, rfl, hl, by simp only [maxLen]; exact hm, hr⟩, fun c' h => by injection h with h1 _ h3; rw [← h3]; exact hz h1⟩, hu⟩
end Go.Proofs.YtoladolgmeanhaaGreat
