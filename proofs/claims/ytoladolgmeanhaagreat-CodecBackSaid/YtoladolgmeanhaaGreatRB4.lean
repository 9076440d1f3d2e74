/- Several texts in one, each with its own head. -/
import Derived.Test.YtoladolgmeanhaaGreatRB3
import Derived.BigQuiet
import Derived.BigRegion
import Derived.ProofKit
import Derived.Lib.SmallJoins
import Derived.Deep.Slices
namespace Go.Proofs.YtoladolgmeanhaaGreat
open Go.RowKit
attribute [local go_sem] Oper.semAt_some
theorem cdE_256 {l S : List Nat} (hS : DefS (cdP l) S) : ∀ x ∈ (cdE l S).2, x < 256 := by
  obtain ⟨j, hj, e, his⟩ := cdE_is l S
  rw [e]
  obtain rfl | rfl | rfl | rfl : j = 0 ∨ j = 1 ∨ j = 2 ∨ j = 3 := by omega
  · exact cdP_256 l
  · intro x hx
    obtain ⟨r, hr, hx⟩ := List.mem_flatMap.1 hx
    have := rl_ok l r hr
    unfold RlOk at this
    simp only [rlB, List.mem_cons, List.not_mem_nil, or_false] at hx
    rcases hx with rfl | rfl | rfl | rfl <;> omega
  · exact plE_256 l
  · exact hS.lt
def CutP (wd ht : Int) (n : Nat) (L : List Nat) (v : Value) (w : World) : Prop := ∃ pc cc, v = .agg #[.int .i64 wd, .int .i64 ht, .slice pc n cc] ∧ Row encP 1 w (.slice pc n cc) L
theorem CutP.stays (wd ht : Int) (n : Nat) (L : List Nat) (v : Value) : StaysC (CutP wd ht n L v) := fun _ _ ⟨pc, cc, e, h⟩ hb => ⟨pc, cc, e, h.below hb⟩
set_option maxRecDepth 20000 in
set_option maxHeartbeats 8000000 in
theorem cback_law (wd ht : Int) (p : Option Addr) (n c : Nat) (l : List Nat) (kd : Nat) (wz : Int) (w : World) (hv : Row encP 1 w (.slice p n c) l) (h32 : ∀ x ∈ l, x < 4294967296) (hkd : kd < 256) :
    Makes Tryz.prog 5 #[.agg #[.int .i64 wd, .int .i64 ht, .slice p n c], .int .u8 (kd : Int), .int .i64 wz] w (.bool true) := by
  unfold Makes
  have hlen := hv.lenR
  have Hv := Lib.hid hv
  have Hlen := Lib.hid hlen
  have H32 := Lib.hid h32
  clear hv hlen h32
  go_enter Tryz.func5, Tryz.ntmps5
  go_upto_region 1 with (fail)
  have hI := ImB.new w wd ht (.slice p n c)
  have hb0 := Below.al1 w (.cells #[.int .i64 wd, .int .i64 ht, .slice p n c] 24)
  generalize w.alloc (.cells #[.int .i64 wd, .int .i64 ht, .slice p n c] 24) = W0 at *
  obtain ⟨B, hB⟩ : ∃ B, w.heap.size = B := ⟨_, rfl⟩
  rw [hB] at hI ⊢
  have Hb0 := Lib.hid hb0
  have HB := Lib.hid hB
  clear hb0 hB
  obtain ⟨c0, c1, c2⟩ := hI.c
  have HI := Lib.hid hI
  by_cases h4 : 4000 < n
  · have d0 : decide ((n : Int) > 4000) = true := by simp; omega
    go_wp2
    go_ret
    rw [← HB.out]
    exact ⟨rfl, Hb0.out⟩
  have d0 : decide ((n : Int) > 4000) = false := by simp; omega
  clear hI
  go_wp2_with fail
  refine Calls.mono (cenc_row wd ht (Hv.out.below Hb0.out) H32.out) ?_
  intro e w1 hE
  obtain ⟨f, hf⟩ : ∃ f, decide (cdM wd ht n) = f := ⟨_, rfl⟩
  have Hf := Lib.hid hf
  obtain ⟨k, b, pb, cb, er, rfl, hrb, hEE, hb1⟩ : ∃ (k : Nat) (b : List Nat) (pb : Option Addr) (cb : Nat) (er : Int), e = .returned (.tuple #[.int .u8 (k : Int), .slice pb b.length cb, .int .i64 er]) ∧ Rw8 w1 (.slice pb b.length cb) b ∧ EncE wd ht n l k b er ∧ Below W0.heap.size W0 w1 := by
    obtain ⟨hb, ⟨h, rfl⟩ | ⟨h, S, p', c', hS, rfl, ho⟩⟩ := hE
    · exact ⟨0, [], none, 0, 1, rfl, ⟨⟨none, 0, rfl, Nat.le_refl _, by decide, .inl ⟨rfl, rfl⟩⟩, fun c h => by cases h; rfl⟩, .inl ⟨h, rfl, rfl, rfl⟩, hb⟩
    · exact ⟨(cdE l S).1, (cdE l S).2, p', c', 0, rfl, Rw8.own ho rfl, .inr ⟨h, rfl, S, hS, rfl⟩, hb⟩
  have Hrb := Lib.hid hrb
  have HEE := Lib.hid hEE
  have Hb1 := Lib.hid (Below.thn Hb0.out hb1)
  have HI1 := Lib.hid (HI.out.later hb1)
  obtain ⟨x0, x1, x2⟩ := HI1.out.c
  clear hE hrb hEE hb1 c0 c1 c2 hf
  go_wp2_with fail
  refine Calls.mono (refMay_any wd ht p n c w1 f Hf.out) ?_
  rintro _ w2 ⟨rfl, hb2⟩
  have Hb2 := Lib.hid (Below.thn Hb1.out hb2)
  have HI2 := Lib.hid (HI1.out.later hb2)
  have Hrb2 := Lib.hid (Hrb.out.below hb2)
  obtain ⟨y0, y1, y2⟩ := HI2.out.c
  clear hb2 x0 x1 x2
  cases f
  case false =>
    have hnm := of_decide_eq_false Hf.out
    obtain ⟨rfl, rfl, rfl⟩ : k = 0 ∧ b = [] ∧ er = 1 := by
      rcases HEE.out with ⟨-, h1, h2, h3⟩ | ⟨h, -⟩
      · exact ⟨h1, h2, h3⟩
      · exact absurd h hnm
    clear hnm
    go_wp2_with fail
    refine Calls.mono (ctells_law _) ?_
    rintro _ w3 ⟨rfl, hb3⟩
    go_wp2
    go_ret
    rw [← HB.out]
    exact ⟨rfl, Below.thn Hb2.out hb3⟩
  have HM : Hid (cdM wd ht n) := Lib.hid (of_decide_eq_true Hf.out)
  have hn1 := cd_nat HM.out
  obtain ⟨rfl, S, hS, hEk⟩ : er = 0 ∧ ∃ S, DefS (cdP l) S ∧ cdE l S = (k, b) := by
    rcases HEE.out with ⟨h, -⟩ | ⟨-, h1, h2⟩
    · exact absurd HM.out h
    · exact ⟨h1, h2⟩
  have HC : Hid (CdR k b n (some (l.map rlw))) := Lib.hid (by
    have := cdE_reads hS (by rw [Hlen.out]; omega)
    rwa [hEk, Hlen.out] at this)
  have Hk : Hid (1 ≤ k ∧ k ≤ 4) := Lib.hid (by have := cdE_kind l S; rwa [hEk] at this)
  have hbl : b.length ≤ 3 * n := by have := cdE_len l S; rwa [hEk, Hlen.out] at this
  have H8 : Hid (∀ x ∈ b, x < 256) := Lib.hid (by have := cdE_256 hS; rwa [hEk] at this)
  have HO : Hid (∀ q r, q ≠ n → k ≠ 3 → CdR k b q r → r = none) := Lib.hid (fun q r hq hk h => by
    have := cdE_other (l := l) (S := S) (n := q) (r := r) hS (by rw [Hlen.out]; omega) (by rw [Hlen.out]; exact hq)
    rw [hEk] at this
    exact this hk h)
  obtain ⟨m, hm⟩ : ∃ m, b.length = m := ⟨_, rfl⟩
  rw [hm] at Hrb2 hbl ⊢
  have hk256 : k < 256 := by have := Hk.out; omega
  clear hS hEk hm
  go_wp2_with fail
  refine Calls.mono (cdec_row k wd ht Hrb2.out hk256 H8.out (by omega)) ?_
  rintro e w3 ⟨hb3, hD⟩
  obtain ⟨p3, c3, rfl, ho3⟩ := hD.yes HM.out Hk.out HC.out
  rw [List.length_map, Hlen.out] at ho3 ⊢
  have HX3 := Lib.hid (own_rowP ho3)
  have Hb3 := Lib.hid (Below.thn Hb2.out hb3)
  have HI3 := Lib.hid (HI2.out.later hb3)
  have Hrb3 := Lib.hid (Hrb2.out.below hb3)
  clear hb3 hD ho3 y0 y1 y2
  go_upto_region 7 with (fail)
  have hbx := Below.al1 w3 (.cells #[.int .i64 wd, .int .i64 ht, .slice p3 n c3] 24)
  have hIx := ImB.new w3 wd ht (.slice p3 n c3)
  generalize w3.alloc (.cells #[.int .i64 wd, .int .i64 ht, .slice p3 n c3] 24) = w4 at *
  obtain ⟨Bx, hBx⟩ : ∃ B, w3.heap.size = B := ⟨_, rfl⟩
  rw [hBx] at hIx ⊢
  have Hb4 := Lib.hid (Below.thn Hb3.out hbx)
  have hI4 := HI3.out.later hbx
  have HI4 := Lib.hid hI4
  have HIx := Lib.hid hIx
  have Hrb4 := Lib.hid (Hrb3.out.below hbx)
  have HX4 := Lib.hid (HX3.out.below hbx)
  have HV4 := Lib.hid (Hv.out.below Hb4.out)
  have HCut := Lib.hid (cut_w (wd := wd) (ht := ht) HV4.out (by omega))
  have HS : Hid (∀ W (p' : Option Addr) (c' : Nat), Below w4.heap.size w4 W → Row encP 1 W (.slice p' n c') (l.map rlw) → Calls Tryz.prog 14 #[.agg #[.int .i64 wd, .int .i64 ht, .slice p3 n c3], .agg #[.int .i64 wd, .int .i64 ht, .slice p' n c']] W fun e w' => e = .returned (.bool true) ∧ Below w4.heap.size w4 w') := Lib.hid (fun W p' c' hW hr =>
    Calls.mono (same_w (HX4.out.below hW) hr (by omega) (by omega) true (by simp)) (by
      rintro _ w' ⟨rfl, hb⟩
      exact ⟨rfl, Below.thn hW hb⟩))
  obtain ⟨i0, i1, i2⟩ := hI4.c
  obtain ⟨x0, x1, x2⟩ := hIx.c
  have dk1 : decide ((k : Int) < 1) = false := by have := Hk.out; simp; omega
  have dk4 : decide ((k : Int) > 4) = false := by have := Hk.out; simp; omega
  have dk4' : decide (4 < (k : Int)) = false := by have := Hk.out; simp; omega
  have hw3 : IntKind.i64.wrap (3 * (n : Int)) = 3 * (n : Int) := IntWalk.i64_in _ (by omega)
  have dm : decide ((m : Int) > 3 * (n : Int)) = false := by simp; omega
  have dm' : decide (3 * (n : Int) < (m : Int)) = false := by simp; omega
  clear hbx hIx hI4 hBx
  obtain ⟨C, hC⟩ : ∃ C : World → Prop, C = fun w' => Below w4.heap.size w4 w' := ⟨_, rfl⟩
  have hCst : StaysC C := by
    rw [hC]
    exact fun w w' h hb => Below.thn h hb
  have hCi : ∀ w, C w → Below w4.heap.size w4 w := by
    rw [hC]
    exact fun _ h => h
  have hCo : ∀ w, Below w4.heap.size w4 w → C w := by
    rw [hC]
    exact fun _ h => h
  have hC0 : C { w4 with drawn := w4.drawn + 1 } := hCo _ (Below.drew (Below.refl _ _))
  have q0 : ∀ n : InC C, n.world.cell? ⟨B, 0, none⟩ = some (.int .i64 wd) := fun n => cell_later (hCi _ n.ok) i0
  have q1 : ∀ n : InC C, n.world.cell? ⟨B, 1, none⟩ = some (.int .i64 ht) := fun n => cell_later (hCi _ n.ok) i1
  have q2 : ∀ k : InC C, k.world.cell? ⟨B, 2, none⟩ = some (.slice p n c) := fun k => cell_later (hCi _ k.ok) i2
  have q3 : ∀ n : InC C, n.world.cell? ⟨Bx, 0, none⟩ = some (.int .i64 wd) := fun n => cell_later (hCi _ n.ok) x0
  have q4 : ∀ n : InC C, n.world.cell? ⟨Bx, 1, none⟩ = some (.int .i64 ht) := fun n => cell_later (hCi _ n.ok) x1
  have q5 : ∀ k : InC C, k.world.cell? ⟨Bx, 2, none⟩ = some (.slice p3 n c3) := fun k => cell_later (hCi _ k.ok) x2
  have hqq : Nonempty (InC C) := ⟨⟨_, hC0⟩⟩
  have HCi := Lib.hid hCi
  have HCo := Lib.hid hCo
  clear hC hCi hCo x0 x1 x2
  refine region_parts (by kernel_rfl) ?_
  refine part_any 0 9 11 C (fun _ => True) (by decide) (by decide) (by kernel_rfl) (by kernel_rfl) hCst hC0 (fun _ _ _ _ => trivial) trivial ?_
  simp only [List.take_succ_cons, List.take_zero, List.drop_succ_cons, List.drop_zero]
  repeat (refine LqC_on (fun K hK => ?_); go_simp; (refine hK _ ?_; clear hK K))
  refine LqC_nil ?_
  refine ChG_call (by rfl) 19 #[.agg #[.int .i64 wd, .int .i64 ht, .slice p n c]] (fun w => by first | (go_simp; done) | kernel_rfl) (CutP wd ht n (l.map rlw)) (fun v => CutP.stays wd ht n (l.map rlw) v) (fun W hW _ => ?_) (fun v1 => ?_)
  · refine Calls.mono (HCut.out W (HCi.out W hW)) ?_
    rintro _ w' ⟨pc, cc, rfl, hbc, hsc, hrc⟩
    exact ⟨_, rfl, HCo.out _ hbc, pc, cc, rfl, hrc _ (Below.refl _ _)⟩
  refine ChG_call (by rfl) 14 #[.agg #[.int .i64 wd, .int .i64 ht, .slice p3 n c3], v1] (fun w => by first | (go_simp; done) | kernel_rfl) (fun v _ => v = .bool true) (fun v _ _ h _ => h) (fun W hW hk => ?_) (fun v2 => ?_)
  · obtain ⟨pc, cc, rfl, hr⟩ := hk
    refine Calls.mono (HS.out W pc cc (HCi.out W hW) hr) ?_
    rintro _ w' ⟨rfl, hbs⟩
    exact ⟨_, rfl, HCo.out _ hbs, rfl⟩
  rintro w5 hw5 rfl
  have hb5 := HCi.out w5 hw5
  have hI5 := HI4.out.later hb5
  obtain ⟨j0, j1, j2⟩ := hI5.c
  have e0 := After.rule j0
  have e1 := After.rule j1
  have e2 := After.rule j2
  have hne := After.ne w5
  have Hb5 := Lib.hid (Below.thn Hb4.out hb5)
  have HI5 := Lib.hid hI5
  have Hrb5 := Lib.hid (Hrb4.out.below hb5)
  clear hqq q0 q1 q2 q3 q4 q5 hC0 hCst hw5 hb5 hI5 i0 i1 i2 j0 j1 j2
  refine part_quiet 11 (fun w' => ∃ k : After w5, w' = k.world) (by kernel_rfl) (by kernel_rfl) ⟨⟨w5, Below.refl _ _⟩, rfl⟩ ?_
  simp only [List.drop_succ_cons, List.drop_zero, Act.put]
  go_simp
  repeat (go_big_quiet_step (fail))
  refine wpQuiet_nil ?_
  rintro ⟨w6, hb6⟩
  have Hb6 := Lib.hid (Below.thn Hb5.out hb6)
  have HI6 := Lib.hid (HI5.out.later hb6)
  have Hrb6 := Lib.hid (Hrb5.out.below hb6)
  obtain ⟨j0, j1, j2⟩ := HI6.out.c
  dsimp only
  clear hb6 e0 e1 e2 hne
  go_wp2_with fail
  refine Calls.mono (cdec_row kd wd ht Hrb6.out hkd H8.out (by omega)) ?_
  rintro e w7 ⟨hb7, hD⟩
  have Hb7 := Lib.hid (Below.thn Hb6.out hb7)
  have HI7 := Lib.hid (HI6.out.later hb7)
  have Hrb7 := Lib.hid (Hrb6.out.below hb7)
  clear j0 j1 j2 hb7
  have hD2 : (¬ (1 ≤ kd ∧ kd ≤ 4) ∧ e = .returned (.tuple #[.agg #[.int .i64 0, .int .i64 0, .slice none 0 0], .int .i64 130])) ∨ ((1 ≤ kd ∧ kd ≤ 4) ∧ (e = .returned (.tuple #[.agg #[.int .i64 0, .int .i64 0, .slice none 0 0], .int .i64 131]) ∨ ∃ (py : Option Addr) (cy : Nat), e = .returned (.tuple #[.agg #[.int .i64 wd, .int .i64 ht, .slice py n cy], .int .i64 0]))) := by
    rcases hD with ⟨h, -⟩ | ⟨-, h, e⟩ | ⟨-, h, q, r, hq, hC', hr⟩
    · exact absurd ⟨HM.out.1, HM.out.2.1, HM.out.2.2.1, HM.out.2.2.2.1⟩ h
    · exact .inl ⟨h, e⟩
    · obtain rfl : q = n := by have := HM.out.2.2.2.2; omega
      rcases hr with ⟨-, e⟩ | ⟨L', v, h', e, ho⟩
      · exact .inr ⟨h, .inl e⟩
      · rw [h'] at hC'
        have hl := (hC'.some H8.out (fun o m er h => h.told.1)).1
        rw [hl] at ho
        obtain ⟨py, cy, rfl⟩ := owns_slice ho
        exact .inr ⟨h, .inr ⟨py, cy, e⟩⟩
  clear hD
  rcases hD2 with ⟨hnk, rfl⟩ | ⟨hnk, rfl | ⟨py, cy, rfl⟩⟩
  · have ek : (decide ((kd : Int) < 1)) = true ∨ (decide ((kd : Int) < 1)) = false ∧ decide ((kd : Int) > 4) = true := by
      by_cases h : kd < 1
      · left; simp; omega
      · right; constructor <;> simp <;> omega
    clear hnk
    go_upto_region 10 with (fail)
    have hba := Below.al1 w7 (.cells #[.int .i64 0, .int .i64 0, .slice none 0 0] 24)
    have hIy := World.alloc_heap_new w7 (.cells #[.int .i64 0, .int .i64 0, .slice none 0 0] 24)
    generalize w7.alloc (.cells #[.int .i64 0, .int .i64 0, .slice none 0 0] 24) = w8 at *
    have Hb8 := Lib.hid (Below.thn Hb7.out hba)
    have HI8 := Lib.hid (HI7.out.later hba)
    have Hrb8 := Lib.hid (Hrb7.out.below hba)
    obtain ⟨a0, a1, a2⟩ := HI8.out.c
    clear hba
    clear hIy
    go_cut [110] (fun s wy => s = .bool false ∧ wy = w8)
    case first =>
      rcases ek with ek | ⟨ek, ek2⟩
      · go_wp2_with fail
        go_meet
        exact ⟨rfl, rfl⟩
      · go_wp2_with fail
        go_meet
        exact ⟨rfl, rfl⟩
    case rest =>
    obtain ⟨rfl, hwc⟩ := hcut
    obtain rfl := hwc.symm
    clear ek
    by_cases z1 : 1 ≤ wz
    case neg =>
      have e1 : decide (wz ≥ 1) = false := by simpa using z1
      clear z1
      go_wp2_with fail
      refine Calls.mono (ctells_law _) ?_
      rintro _ wt ⟨rfl, hbt⟩
      go_wp2
      go_ret
      rw [← HB.out]
      exact ⟨rfl, Below.thn Hb8.out hbt⟩
    have e1 : decide (wz ≥ 1) = true := by simpa using z1
    by_cases z2 : wz ≤ 256
    case neg =>
      have e2 : decide (wz ≤ 256) = false := by simpa using z2
      clear z2
      go_wp2_with fail
      refine Calls.mono (ctells_law _) ?_
      rintro _ wt ⟨rfl, hbt⟩
      go_wp2
      go_ret
      rw [← HB.out]
      exact ⟨rfl, Below.thn Hb8.out hbt⟩
    have e2 : decide (wz ≤ 256) = true := by simpa using z2
    obtain ⟨q2, hq2, hq3, hq4⟩ := cd_area ⟨z1, HM.out.2.1, z2, HM.out.2.2.2.1⟩
    have HZ := Lib.hid (show 1 ≤ wz ∧ 1 ≤ ht ∧ wz ≤ 256 ∧ ht ≤ 256 from ⟨z1, HM.out.2.1, z2, HM.out.2.2.2.1⟩)
    have Hq2 := Lib.hid hq2
    have hwz : IntKind.i64.wrap (wz * ht) = (q2 : Int) := by rw [hq2]; exact IntWalk.i64_in _ (by omega)
    have hwn : IntKind.i64.wrap (wd * ht) = (n : Int) := by rw [← HM.out.2.2.2.2]; exact IntWalk.i64_in _ (by omega)
    clear z1 z2 hq2
    by_cases hqn : q2 = n
    case pos =>
      have e3 : ((q2 : Int) != (n : Int)) = false := by rw [hqn]; simp
      have e3' : ((n : Int) != (n : Int)) = false := by simp
      subst hqn
      go_wp2_with fail
      refine Calls.mono (ctells_law _) ?_
      rintro _ wt ⟨rfl, hbt⟩
      go_wp2
      go_ret
      rw [← HB.out]
      exact ⟨rfl, Below.thn Hb8.out hbt⟩
    have e3 : ((q2 : Int) != (n : Int)) = true := by simp; omega
    obtain ⟨b0, b1, b2⟩ := HI8.out.c
    go_wp2_with fail
    refine Calls.mono (cdec_row k wz ht Hrb8.out hk256 H8.out (by omega)) ?_
    rintro e w9 ⟨hb9, hD⟩
    have Hb9 := Lib.hid (Below.thn Hb8.out hb9)
    have hD2 : ∃ r, CdR k b q2 r ∧ ((r = none ∧ e = .returned (.tuple #[.agg #[.int .i64 0, .int .i64 0, .slice none 0 0], .int .i64 131])) ∨ ∃ (Lz : List Nat) (pz : Option Addr) (cz : Nat), r = some Lz ∧ e = .returned (.tuple #[.agg #[.int .i64 wz, .int .i64 ht, .slice pz Lz.length cz], .int .i64 0])) := by
      rcases hD with ⟨h, -⟩ | ⟨-, h, -⟩ | ⟨-, -, q, r, hq, hC', hr⟩
      · exact absurd HZ.out h
      · exact absurd Hk.out h
      · obtain rfl : q = q2 := by have := Hq2.out; omega
        rcases hr with ⟨h, e⟩ | ⟨L', v, h, e, ho⟩
        · exact ⟨r, hC', .inl ⟨h, e⟩⟩
        · obtain ⟨pz, cz, rfl⟩ := owns_slice ho
          exact ⟨r, hC', .inr ⟨L', pz, cz, h, e⟩⟩
    clear hD b0 b1 b2
    obtain ⟨r, hCr, ⟨-, rfl⟩ | ⟨Lz, pz, cz, hrz, rfl⟩⟩ := hD2
    · clear hCr
      by_cases hk3 : k = 3
      · subst hk3
        have hk3 : ((3 : Int) != 3) = false := rfl
        rw [show ((3 : Nat) : Int) = 3 from rfl] at *
        have hbq := Lib.hid (Below.thn Hb9.out (Below.al1 w9 (.cells #[.int .i64 0, .int .i64 0, .slice none 0 0] 24)))
        clear hb9
        go_wp2_with fail
        refine Calls.mono (ctells_law _) ?_
        rintro _ wt ⟨rfl, hbt⟩
        go_wp2
        go_ret
        rw [← HB.out]
        exact ⟨rfl, Below.thn hbq.out hbt⟩
      · have e4 : ((k : Int) != 3) = true := by simp; omega
        have hbq := Lib.hid (Below.thn Hb9.out (Below.al1 w9 (.cells #[.int .i64 0, .int .i64 0, .slice none 0 0] 24)))
        clear hb9
        go_wp2_with fail
        refine Calls.mono (ctells_law _) ?_
        rintro _ wt ⟨rfl, hbt⟩
        go_wp2
        go_ret
        rw [← HB.out]
        exact ⟨rfl, Below.thn hbq.out hbt⟩
    · have hk3 : k = 3 := by
        rcases Nat.decEq k 3 with h | h
        · have := HO.out q2 r hqn h hCr
          rw [hrz] at this
          cases this
        · exact h
      clear hCr hrz
      subst hk3
      rw [show ((3 : Nat) : Int) = 3 from rfl] at *
      have hbq := Lib.hid (Below.thn Hb9.out (Below.al1 w9 (.cells #[.int .i64 wz, .int .i64 ht, .slice pz Lz.length cz] 24)))
      clear hb9
      go_wp2_with fail
      refine Calls.mono (ctells_law _) ?_
      rintro _ wt ⟨rfl, hbt⟩
      go_wp2
      go_ret
      rw [← HB.out]
      exact ⟨rfl, Below.thn hbq.out hbt⟩
  · have ek1 : decide ((kd : Int) < 1) = false := by simp; omega
    have ek2 : decide ((kd : Int) > 4) = false := by simp; omega
    have ek3 : decide (4 < (kd : Int)) = false := by simp; omega
    clear hnk
    go_upto_region 10 with (fail)
    have hba := Below.al1 w7 (.cells #[.int .i64 0, .int .i64 0, .slice none 0 0] 24)
    have hIy := World.alloc_heap_new w7 (.cells #[.int .i64 0, .int .i64 0, .slice none 0 0] 24)
    generalize w7.alloc (.cells #[.int .i64 0, .int .i64 0, .slice none 0 0] 24) = w8 at *
    have Hb8 := Lib.hid (Below.thn Hb7.out hba)
    have HI8 := Lib.hid (HI7.out.later hba)
    have Hrb8 := Lib.hid (Hrb7.out.below hba)
    obtain ⟨a0, a1, a2⟩ := HI8.out.c
    clear hba
    clear hIy
    go_cut [110] (fun s wy => s = .bool false ∧ wy = w8)
    case first =>
      go_wp2_with fail
      go_meet
      exact ⟨rfl, rfl⟩
    case rest =>
    obtain ⟨rfl, hwc⟩ := hcut
    obtain rfl := hwc.symm
    clear ek1 ek2 ek3
    by_cases z1 : 1 ≤ wz
    case neg =>
      have e1 : decide (wz ≥ 1) = false := by simpa using z1
      clear z1
      go_wp2_with fail
      refine Calls.mono (ctells_law _) ?_
      rintro _ wt ⟨rfl, hbt⟩
      go_wp2
      go_ret
      rw [← HB.out]
      exact ⟨rfl, Below.thn Hb8.out hbt⟩
    have e1 : decide (wz ≥ 1) = true := by simpa using z1
    by_cases z2 : wz ≤ 256
    case neg =>
      have e2 : decide (wz ≤ 256) = false := by simpa using z2
      clear z2
      go_wp2_with fail
      refine Calls.mono (ctells_law _) ?_
      rintro _ wt ⟨rfl, hbt⟩
      go_wp2
      go_ret
      rw [← HB.out]
      exact ⟨rfl, Below.thn Hb8.out hbt⟩
    have e2 : decide (wz ≤ 256) = true := by simpa using z2
    obtain ⟨q2, hq2, hq3, hq4⟩ := cd_area ⟨z1, HM.out.2.1, z2, HM.out.2.2.2.1⟩
    have HZ := Lib.hid (show 1 ≤ wz ∧ 1 ≤ ht ∧ wz ≤ 256 ∧ ht ≤ 256 from ⟨z1, HM.out.2.1, z2, HM.out.2.2.2.1⟩)
    have Hq2 := Lib.hid hq2
    have hwz : IntKind.i64.wrap (wz * ht) = (q2 : Int) := by rw [hq2]; exact IntWalk.i64_in _ (by omega)
    have hwn : IntKind.i64.wrap (wd * ht) = (n : Int) := by rw [← HM.out.2.2.2.2]; exact IntWalk.i64_in _ (by omega)
    clear z1 z2 hq2
    by_cases hqn : q2 = n
    case pos =>
      have e3 : ((q2 : Int) != (n : Int)) = false := by rw [hqn]; simp
      have e3' : ((n : Int) != (n : Int)) = false := by simp
      subst hqn
      go_wp2_with fail
      refine Calls.mono (ctells_law _) ?_
      rintro _ wt ⟨rfl, hbt⟩
      go_wp2
      go_ret
      rw [← HB.out]
      exact ⟨rfl, Below.thn Hb8.out hbt⟩
    have e3 : ((q2 : Int) != (n : Int)) = true := by simp; omega
    obtain ⟨b0, b1, b2⟩ := HI8.out.c
    go_wp2_with fail
    refine Calls.mono (cdec_row k wz ht Hrb8.out hk256 H8.out (by omega)) ?_
    rintro e w9 ⟨hb9, hD⟩
    have Hb9 := Lib.hid (Below.thn Hb8.out hb9)
    have hD2 : ∃ r, CdR k b q2 r ∧ ((r = none ∧ e = .returned (.tuple #[.agg #[.int .i64 0, .int .i64 0, .slice none 0 0], .int .i64 131])) ∨ ∃ (Lz : List Nat) (pz : Option Addr) (cz : Nat), r = some Lz ∧ e = .returned (.tuple #[.agg #[.int .i64 wz, .int .i64 ht, .slice pz Lz.length cz], .int .i64 0])) := by
      rcases hD with ⟨h, -⟩ | ⟨-, h, -⟩ | ⟨-, -, q, r, hq, hC', hr⟩
      · exact absurd HZ.out h
      · exact absurd Hk.out h
      · obtain rfl : q = q2 := by have := Hq2.out; omega
        rcases hr with ⟨h, e⟩ | ⟨L', v, h, e, ho⟩
        · exact ⟨r, hC', .inl ⟨h, e⟩⟩
        · obtain ⟨pz, cz, rfl⟩ := owns_slice ho
          exact ⟨r, hC', .inr ⟨L', pz, cz, h, e⟩⟩
    clear hD b0 b1 b2
    obtain ⟨r, hCr, ⟨-, rfl⟩ | ⟨Lz, pz, cz, hrz, rfl⟩⟩ := hD2
    · clear hCr
      by_cases hk3 : k = 3
      · subst hk3
        have hk3 : ((3 : Int) != 3) = false := rfl
        rw [show ((3 : Nat) : Int) = 3 from rfl] at *
        have hbq := Lib.hid (Below.thn Hb9.out (Below.al1 w9 (.cells #[.int .i64 0, .int .i64 0, .slice none 0 0] 24)))
        clear hb9
        go_wp2_with fail
        refine Calls.mono (ctells_law _) ?_
        rintro _ wt ⟨rfl, hbt⟩
        go_wp2
        go_ret
        rw [← HB.out]
        exact ⟨rfl, Below.thn hbq.out hbt⟩
      · have e4 : ((k : Int) != 3) = true := by simp; omega
        have hbq := Lib.hid (Below.thn Hb9.out (Below.al1 w9 (.cells #[.int .i64 0, .int .i64 0, .slice none 0 0] 24)))
        clear hb9
        go_wp2_with fail
        refine Calls.mono (ctells_law _) ?_
        rintro _ wt ⟨rfl, hbt⟩
        go_wp2
        go_ret
        rw [← HB.out]
        exact ⟨rfl, Below.thn hbq.out hbt⟩
    · have hk3 : k = 3 := by
        rcases Nat.decEq k 3 with h | h
        · have := HO.out q2 r hqn h hCr
          rw [hrz] at this
          cases this
        · exact h
      clear hCr hrz
      subst hk3
      rw [show ((3 : Nat) : Int) = 3 from rfl] at *
      have hbq := Lib.hid (Below.thn Hb9.out (Below.al1 w9 (.cells #[.int .i64 wz, .int .i64 ht, .slice pz Lz.length cz] 24)))
      clear hb9
      go_wp2_with fail
      refine Calls.mono (ctells_law _) ?_
      rintro _ wt ⟨rfl, hbt⟩
      go_wp2
      go_ret
      rw [← HB.out]
      exact ⟨rfl, Below.thn hbq.out hbt⟩
  · have ek1 : decide ((kd : Int) < 1) = false := by simp; omega
    have ek2 : decide ((kd : Int) > 4) = false := by simp; omega
    have ek3 : decide (4 < (kd : Int)) = false := by simp; omega
    clear hnk
    go_upto_region 10 with (fail)
    have hba := Below.al1 w7 (.cells #[.int .i64 wd, .int .i64 ht, .slice py n cy] 24)
    have hIy := World.alloc_heap_new w7 (.cells #[.int .i64 wd, .int .i64 ht, .slice py n cy] 24)
    generalize w7.alloc (.cells #[.int .i64 wd, .int .i64 ht, .slice py n cy] 24) = w8 at *
    have Hb8 := Lib.hid (Below.thn Hb7.out hba)
    have HI8 := Lib.hid (HI7.out.later hba)
    have Hrb8 := Lib.hid (Hrb7.out.below hba)
    obtain ⟨a0, a1, a2⟩ := HI8.out.c
    clear hba
    have hy8 : ImB w8 w7.heap.size wd ht (.slice py n cy) := ⟨hIy⟩
    obtain ⟨v0, v1, v2⟩ := hy8.c
    have HMt := decide_eq_true HM.out
    clear hIy hy8
    go_cut [110] (fun s wy => s = .bool false ∧ Below w8.heap.size w8 wy)
    case first =>
      go_wp2_with fail
      refine Calls.mono (refMay_any wd ht py n cy w8 true HMt) ?_
      rintro _ wm ⟨rfl, hbm⟩
      have Hbm := Lib.hid hbm
      clear hbm
      go_wp2_with fail
      go_meet
      exact ⟨rfl, Hbm.out⟩
    case rest =>
    obtain ⟨rfl, hwc⟩ := hcut
    replace HI8 := Lib.hid (HI8.out.later hwc)
    replace Hrb8 := Lib.hid (Hrb8.out.below hwc)
    replace Hb8 := Lib.hid (Below.thn Hb8.out hwc)
    clear ek1 ek2 ek3 a0 a1 a2 v0 v1 v2 hwc
    obtain ⟨a0, a1, a2⟩ := HI8.out.c
    by_cases z1 : 1 ≤ wz
    case neg =>
      have e1 : decide (wz ≥ 1) = false := by simpa using z1
      clear z1
      go_wp2_with fail
      refine Calls.mono (ctells_law _) ?_
      rintro _ wt ⟨rfl, hbt⟩
      go_wp2
      go_ret
      rw [← HB.out]
      exact ⟨rfl, Below.thn Hb8.out hbt⟩
    have e1 : decide (wz ≥ 1) = true := by simpa using z1
    by_cases z2 : wz ≤ 256
    case neg =>
      have e2 : decide (wz ≤ 256) = false := by simpa using z2
      clear z2
      go_wp2_with fail
      refine Calls.mono (ctells_law _) ?_
      rintro _ wt ⟨rfl, hbt⟩
      go_wp2
      go_ret
      rw [← HB.out]
      exact ⟨rfl, Below.thn Hb8.out hbt⟩
    have e2 : decide (wz ≤ 256) = true := by simpa using z2
    obtain ⟨q2, hq2, hq3, hq4⟩ := cd_area ⟨z1, HM.out.2.1, z2, HM.out.2.2.2.1⟩
    have HZ := Lib.hid (show 1 ≤ wz ∧ 1 ≤ ht ∧ wz ≤ 256 ∧ ht ≤ 256 from ⟨z1, HM.out.2.1, z2, HM.out.2.2.2.1⟩)
    have Hq2 := Lib.hid hq2
    have hwz : IntKind.i64.wrap (wz * ht) = (q2 : Int) := by rw [hq2]; exact IntWalk.i64_in _ (by omega)
    have hwn : IntKind.i64.wrap (wd * ht) = (n : Int) := by rw [← HM.out.2.2.2.2]; exact IntWalk.i64_in _ (by omega)
    clear z1 z2 hq2
    by_cases hqn : q2 = n
    case pos =>
      have e3 : ((q2 : Int) != (n : Int)) = false := by rw [hqn]; simp
      have e3' : ((n : Int) != (n : Int)) = false := by simp
      subst hqn
      go_wp2_with fail
      refine Calls.mono (ctells_law _) ?_
      rintro _ wt ⟨rfl, hbt⟩
      go_wp2
      go_ret
      rw [← HB.out]
      exact ⟨rfl, Below.thn Hb8.out hbt⟩
    have e3 : ((q2 : Int) != (n : Int)) = true := by simp; omega
    obtain ⟨b0, b1, b2⟩ := HI8.out.c
    go_wp2_with fail
    refine Calls.mono (cdec_row k wz ht Hrb8.out hk256 H8.out (by omega)) ?_
    rintro e w9 ⟨hb9, hD⟩
    have Hb9 := Lib.hid (Below.thn Hb8.out hb9)
    have hD2 : ∃ r, CdR k b q2 r ∧ ((r = none ∧ e = .returned (.tuple #[.agg #[.int .i64 0, .int .i64 0, .slice none 0 0], .int .i64 131])) ∨ ∃ (Lz : List Nat) (pz : Option Addr) (cz : Nat), r = some Lz ∧ e = .returned (.tuple #[.agg #[.int .i64 wz, .int .i64 ht, .slice pz Lz.length cz], .int .i64 0])) := by
      rcases hD with ⟨h, -⟩ | ⟨-, h, -⟩ | ⟨-, -, q, r, hq, hC', hr⟩
      · exact absurd HZ.out h
      · exact absurd Hk.out h
      · obtain rfl : q = q2 := by have := Hq2.out; omega
        rcases hr with ⟨h, e⟩ | ⟨L', v, h, e, ho⟩
        · exact ⟨r, hC', .inl ⟨h, e⟩⟩
        · obtain ⟨pz, cz, rfl⟩ := owns_slice ho
          exact ⟨r, hC', .inr ⟨L', pz, cz, h, e⟩⟩
    clear hD b0 b1 b2
    obtain ⟨r, hCr, ⟨-, rfl⟩ | ⟨Lz, pz, cz, hrz, rfl⟩⟩ := hD2
    · clear hCr
      by_cases hk3 : k = 3
      · subst hk3
        have hk3 : ((3 : Int) != 3) = false := rfl
        rw [show ((3 : Nat) : Int) = 3 from rfl] at *
        have hbq := Lib.hid (Below.thn Hb9.out (Below.al1 w9 (.cells #[.int .i64 0, .int .i64 0, .slice none 0 0] 24)))
        clear hb9
        go_wp2_with fail
        refine Calls.mono (ctells_law _) ?_
        rintro _ wt ⟨rfl, hbt⟩
        go_wp2
        go_ret
        rw [← HB.out]
        exact ⟨rfl, Below.thn hbq.out hbt⟩
      · have e4 : ((k : Int) != 3) = true := by simp; omega
        have hbq := Lib.hid (Below.thn Hb9.out (Below.al1 w9 (.cells #[.int .i64 0, .int .i64 0, .slice none 0 0] 24)))
        clear hb9
        go_wp2_with fail
        refine Calls.mono (ctells_law _) ?_
        rintro _ wt ⟨rfl, hbt⟩
        go_wp2
        go_ret
        rw [← HB.out]
        exact ⟨rfl, Below.thn hbq.out hbt⟩
    · have hk3 : k = 3 := by
        rcases Nat.decEq k 3 with h | h
        · have := HO.out q2 r hqn h hCr
          rw [hrz] at this
          cases this
        · exact h
      clear hCr hrz
      subst hk3
      rw [show ((3 : Nat) : Int) = 3 from rfl] at *
      have hbq := Lib.hid (Below.thn Hb9.out (Below.al1 w9 (.cells #[.int .i64 wz, .int .i64 ht, .slice pz Lz.length cz] 24)))
      clear hb9
      go_wp2_with fail
      refine Calls.mono (ctells_law _) ?_
      rintro _ wt ⟨rfl, hbt⟩
      go_wp2
      go_ret
      rw [← HB.out]
      exact ⟨rfl, Below.thn hbq.out hbt⟩
end Go.Proofs.YtoladolgmeanhaaGreat

namespace Go.Proofs.YtoladolgmeanhaaGreat
open Go.ChangeShapes Go.WideShapes Go.ChangeAt Go.RowKit Go.Joins
theorem wf_u8b {n : Int} (h : (Lit.int .u8 n).wf = true) : 0 ≤ n ∧ n ≤ 255 := by
  have hm : IntKind.u8.min = 0 := by decide
  have hx : IntKind.u8.max = 255 := by decide
  simpa [Lit.wf, hm, hx] using h
end Go.Proofs.YtoladolgmeanhaaGreat

namespace Go.Proofs.YtoladolgmeanhaaGreat
open Go.ChangeShapes Go.WideShapes Go.ChangeAt Go.RowKit Go.Joins Go.Deep
theorem iv_cellsD : Tryz.prog.cellsOf 24 = 3 := by kernel_rfl
set_option maxRecDepth 100000 in
theorem open_u32sD {H : Type} {enc : TypeId × Value → H} {W : World} {base n : Nat} {v : Value} {y : DataW H × List MemPlace} (hv : Cell.okWide Tryz.prog W .any base 22 v) (h : DataW.trod enc Tryz.prog W 0 (fun _ => true) true n 22 [v] = some y) :
    ∃ (p : Option Addr) (c : Nat) (S : List Nat), v = .slice p S.length c ∧ RowAt encP 1 W p S ∧ (∀ v ∈ S, v < 4294967296) ∧ S.length ≤ c ∧ c ≤ 9223372036854775807 ∧ (p = none → c = 0) := by
  rcases open_slice1 Tryz.underlying22 (by kernel_rfl) h with ⟨hcs, -⟩ | ⟨a, len, cap, m, n, V, D, Pl, hcs, hb, hl, hm, hmm, hx, hi⟩
  · simp at hcs
    subst hcs
    exact ⟨none, 0, [], rfl, .inl ⟨rfl, rfl⟩, fun v h => (by cases h), Nat.le_refl _, by decide, fun _ => rfl⟩
  · simp at hcs
    subst hcs
    have hh : W.has Tryz.prog .any base a 41 cap := by
      have h1 := hv
      simp only [Cell.okWide, Tryz.underlying22, Cell.ok] at h1
      exact h1.2.2
    obtain ⟨-, hspot, row, cells, hsh, -⟩ := hh
    have hlt : a.block < W.heap.size := by
      unfold World.shape? at hsh
      cases hq : W.heap[a.block]? with
      | none => rw [hq] at hsh; cases hsh
      | some o => exact (Array.getElem?_eq_some_iff.1 hq).1
    obtain ⟨ab, ao, asp⟩ := a
    dsimp only at hspot hlt
    subst hspot
    have H : ∀ i, i < len → ∃ x : Nat, x < 4294967296 ∧ W.cell? ⟨ab, ao + i, none⟩ = some (.int .u32 (x : Int)) := fun i him => by
      obtain ⟨hc, ht⟩ := hi i (by rw [hmm]; simp; omega)
      obtain ⟨x, e, -, wx⟩ := DataW.trod_int Tryz.underlying41 ht
      simp at e
      rw [e] at hc
      rw [Addr.add_lit] at hc
      have hw := wf_u32b wx
      exact ⟨x.toNat, by omega, by rw [Int.toNat_of_nonneg hw.1]; exact hc⟩
    obtain ⟨f, hf'⟩ : ∃ f : Nat → Nat, ∀ i, i < len → f i < 4294967296 ∧ W.cell? ⟨ab, ao + i, none⟩ = some (.int .u32 (f i : Int)) := by
      classical
      refine ⟨fun i => if h : i < len then Classical.choose (H i h) else default, fun i him => ?_⟩
      simp only [him, dif_pos]
      exact Classical.choose_spec (H i him)
    have hln : ((List.range len).map f).length = len := by simp
    refine ⟨some ⟨ab, ao, none⟩, cap, (List.range len).map f, by rw [hln], .inr ⟨_, _, rfl, hlt, fun i x hx j u hu => ?_⟩, fun v hv => ?_, by rw [hln]; exact hl, hm, fun h => by cases h⟩
    · rw [List.getElem?_map] at hx
      cases hr : (List.range len)[i]? with
      | none => rw [hr] at hx; cases hx
      | some q =>
        rw [hr] at hx
        obtain ⟨hlt2, hq⟩ := List.getElem?_eq_some_iff.1 hr
        rw [List.getElem_range] at hq
        subst hq
        cases hx
        obtain ⟨hj, hju⟩ := List.getElem?_eq_some_iff.1 hu
        have hj0 : j = 0 := by simp [encP] at hj; omega
        subst hj0
        simp [encP] at hju
        subst hju
        have := (hf' i (by simpa using hlt2)).2
        simpa [pxv] using this
    · obtain ⟨i, hi', rfl⟩ := List.mem_map.1 hv
      exact (hf' i (by simpa using hi')).1
set_option maxRecDepth 100000 in
theorem open_imgD {H : Type} {enc : TypeId × Value → H} {W : World} {base : Nat} {v : Value} {d : DataW H} {p : List MemPlace} (hv : Value.okWide Tryz.prog W .any base 24 v) (h : DataW.Trod enc Tryz.prog W 0 (fun _ => true) true 24 v d p) :
    ∃ (wd ht : Int) (q : Option Addr) (n c : Nat) (S : List Nat), v = .agg #[.int .i64 wd, .int .i64 ht, .slice q n c] ∧ RwP W (.slice q n c) S ∧ (∀ x ∈ S, x < 4294967296) := by
  obtain ⟨v0, v1, v2, y0, y1, y2, n, rfl, rfl, rfl, h0, h1, h2⟩ := open_agg3 Tryz.underlying24 (by kernel_rfl) iv_cellsD hv h
  obtain ⟨a, e0, -, wa⟩ := DataW.trod_int Tryz.underlying3 h0
  obtain ⟨b, e1, -, wb⟩ := DataW.trod_int Tryz.underlying3 h1
  simp at e0 e1
  subst e0 e1
  have hc : Cell.okWide Tryz.prog W .any base 22 v2 := by
    have h3 := hv
    unfold Value.okWide at h3
    rw [Tryz.underlying24] at h3
    obtain ⟨cs, hcs, -, ts, hts, -, hall⟩ := h3
    cases hcs
    have ht : Tryz.prog.cellTypes Tryz.prog.depth 24 = some [3, 3, 22] := by kernel_rfl
    rw [ht] at hts
    cases hts
    obtain ⟨u, hu, hok⟩ := hall 2 v2 rfl
    cases hu
    exact hok
  obtain ⟨q, c, S, rfl, hr, hu, hl, hm, hz⟩ := open_u32sD hc h2
  exact ⟨a, b, q, S.length, c, S, rfl, ⟨⟨q, c, rfl, hl, by simp only [maxLen]; exact hm, hr⟩, fun c' h => by injection h with h1 _ h3; rw [← h3]; exact hz h1⟩, hu⟩
end Go.Proofs.YtoladolgmeanhaaGreat
