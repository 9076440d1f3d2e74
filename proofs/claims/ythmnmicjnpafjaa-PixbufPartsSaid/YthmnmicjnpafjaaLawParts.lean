/- The walk of the statement PixbufParts. -/
import Derived.Test.YthmnmicjnpafjaaPixM
import Derived.Test.YthmnmicjnpafjaaPixN
import Derived.Test.YthmnmicjnpafjaaPixLift
namespace Go.Proofs.Ythmnmicjnpafjaa
open Go.RowKit

theorem Turns.stays {w w' : World} {g B wd ht h : Nat} {M : List Int} (ht' : Turns (fun b => b = g) w w') (hB : BufAt w B wd ht h M) (h1 : B ≠ g) (h2 : h ≠ g) : BufAt w' B wd ht h M :=
  hB.same (ht'.block B hB.lt h1) (ht'.block h hB.pix.lt h2)

theorem pict_open {wd ht : Int} {p : Option Addr} {S : List Int} {W : World} (h : pictB wd ht S.length = true) (hr : RowAt encU 1 W p S) :
    ∃ (a b fb fo : Nat), wd = a ∧ ht = b ∧ (1 ≤ a ∧ a ≤ 256) ∧ (1 ≤ b ∧ b ≤ 256) ∧ a * b = S.length ∧ p = some ⟨fb, fo, none⟩ := by
  unfold pictB at h
  rw [Bool.and_eq_true, sizedB_iff] at h
  obtain ⟨⟨h1, h2⟩, h3⟩ := h
  have h3' : (S.length : Int) = wd * ht := of_decide_eq_true h3
  obtain ⟨a, rfl⟩ := Int.eq_ofNat_of_zero_le (show 0 ≤ wd by omega)
  obtain ⟨b, rfl⟩ := Int.eq_ofNat_of_zero_le (show 0 ≤ ht by omega)
  have h4 : a * b = S.length := by
    have : ((a * b : Nat) : Int) = (S.length : Int) := by rw [Int.natCast_mul]; exact h3'.symm
    omega
  rcases hr with ⟨-, rfl⟩ | ⟨fb, fo, rfl, -, -⟩
  · exfalso
    have := Nat.mul_pos (show 0 < a by omega) (show 0 < b by omega)
    simp only [List.length_nil] at h4
    omega
  · exact ⟨a, b, fb, fo, rfl, rfl, by omega, by omega, h4, rfl⟩

theorem shift_fit' (r : Rc) (dx dy : Int) : Fit (shiftR r dx dy) := by
  unfold shiftR
  split
  · rename_i h
    simp only [Bool.and_eq_true, wayShift, decide_eq_true_eq] at h
    have := goodR_iff.1 h.1
    exact ⟨by simp only; omega, by simp only; omega⟩
  · exact ⟨by decide, by decide⟩

set_option maxRecDepth 100000 in
set_option maxHeartbeats 8000000 in
theorem parts_any (wd ht : Int) (p : Option Addr) (c : Nat) (S : List Int) (r q : Rc) (w : World) (hI : Img w wd ht p c S) (hr : Fit r) (hq : Fit q) : Makes Try.prog 4 #[IV wd ht (.slice p S.length c), RV r, RV q] w (.bool true) := by
  unfold Makes
  go_enter Try.func4, Try.ntmps4
  go_wp2_with fail
  have i0 : Im3 (((w.alloc (.cells #[.int .i64 wd, .int .i64 ht, .slice p S.length c] 24)).alloc (RO r)).alloc (RO q)) w.heap.size wd ht (.slice p S.length c) := (Im3.new rfl).later (Below.al2 _ _ _)
  have l1 : Lies (((w.alloc (.cells #[.int .i64 wd, .int .i64 ht, .slice p S.length c] 24)).alloc (RO r)).alloc (RO q)) (w.heap.size + 1) r := (Lies.new (by simp)).later (Below.al1 _ _)
  have l2 : Lies (((w.alloc (.cells #[.int .i64 wd, .int .i64 ht, .slice p S.length c] 24)).alloc (RO r)).alloc (RO q)) (w.heap.size + 1 + 1) q := Lies.new (by simp)
  have hbw := Below.al3 w (.cells #[.int .i64 wd, .int .i64 ht, .slice p S.length c] 24) (RO r) (RO q)
  generalize (((w.alloc (.cells #[.int .i64 wd, .int .i64 ht, .slice p S.length c] 24)).alloc (RO r)).alloc (RO q)) = W at *
  have HI0 := Lib.hid i0
  have HL1 := Lib.hid l1
  have HL2 := Lib.hid l2
  have Hbw := Lib.hid hbw
  have HSr := Lib.hid (hI.row.below hbw)
  have HSu := Lib.hid hI.u
  have HSc := Lib.hid (And.intro hI.len hI.cap)
  clear i0 l1 l2 hbw hI
  refine Calls.mono (great_any wd ht p S.length c _) ?_
  rintro e w1 ⟨rfl, hb1⟩
  have Hw1 := Lib.hid hb1
  clear hb1
  obtain ⟨big, hbig⟩ : ∃ big, decide (1000 < S.length) = big := ⟨_, rfl⟩
  rw [hbig]
  cases big
  case true =>
    go_wp2_with fail
    refine Calls.mono (wakes3_any _) ?_
    rintro e w2 ⟨rfl, hb2⟩
    go_wp2
    go_ret
    exact ⟨rfl, Below.thn (Below.thn Hbw.out Hw1.out) hb2⟩
  case false =>
  obtain ⟨m0, m1, m2⟩ := (HI0.out.later Hw1.out).cells
  go_wp2_with fail
  cases hp : pictB wd ht S.length
  case false =>
    refine Calls.mono (from_no wd ht p S.length c _ hp) ?_
    rintro e w2 ⟨rfl, hb2⟩
    clear hp m0 m1 m2
    go_wp2_with fail
    refine Calls.mono (wakes3_any _) ?_
    rintro e w3 ⟨rfl, hb3⟩
    go_wp2
    go_ret
    exact ⟨rfl, Below.thn (Below.thn (Below.thn Hbw.out Hw1.out) hb2) hb3⟩
  case true =>
  obtain ⟨a, b, fb, fo, rfl, rfl, ha, hb, hab, rfl⟩ := pict_open hp HSr.out
  refine Calls.mono (from_yes a b fb fo S.length c S _ (HSr.out.below Hw1.out) rfl HSc.out.1 HSc.out.2 HSu.out ha hb hab) ?_
  rintro e w2 ⟨B, g, rfl, hB, hB1, hg1, hBg, hb2⟩
  have hs1 := Hw1.out.size
  have Hw2 := Lib.hid (Below.thn Hw1.out hb2)
  have HB := Lib.hid hB
  clear hp m0 m1 m2 hb2 hB HSr HSu HSc HI0 Hw1
  generalize cutL a 0 0 a b S = L at *
  go_wp2_with fail
  refine Calls.mono (clone_any B a b g L _ HB.out) ?_
  rintro e w3 ⟨Bc, gc, rfl, hBc, hBc1, hgc1, -, hb3⟩
  have hs2 := Hw2.out.size
  have hlt2 := HB.out.lt
  have hglt2 := HB.out.pix.lt
  have Hw3 := Lib.hid (Below.thn Hw2.out hb3)
  have HB3 := Lib.hid (HB.out.later hb3)
  have HBc := Lib.hid hBc
  clear hb3 hBc HB Hw2
  obtain ⟨c0, c1, c2, c3⟩ := HL1.out.later Hw3.out
  go_wp2_with fail
  cases hin : allInB r a b
  case false =>
    refine Calls.mono (part_no B a b g L r _ HB3.out hr hin) ?_
    rintro e w4 ⟨rfl, hb4⟩
    have Hw4 := Lib.hid (Below.thn Hw3.out hb4)
    have HB4 := Lib.hid (HB3.out.later hb4)
    clear hb4 c0 c1 c2 c3 HB3 HBc
    go_upto_region 9 with (fail)
    have hal := Below.al1 w4 (.cells #[.int .i64 0, .int .i64 0, .slice none 0 0] 24)
    have Hw5 := Lib.hid (Below.thn Hw4.out hal)
    have HB5 := Lib.hid (HB4.out.later hal)
    generalize (w4.alloc (.cells #[.int .i64 0, .int .i64 0, .slice none 0 0] 24)) = w5 at *
    clear hal Hw4 HB4
    obtain ⟨r0, r1, r2, r3⟩ := (HL1.out.later Hw5.out).rules
    have hq' := After.ne w5
    cases he : emptyR r
    · have hno : inR r ⟨0, 0, (a : Int), (b : Int)⟩ = false := by
        unfold allInB at hin
        rw [he] at hin
        simpa using hin
      have hfw : Fit ⟨0, 0, (a : Int), (b : Int)⟩ := ⟨show (0 : Int) ≤ 9223372036854775807 by decide, show (0 : Int) ≤ 9223372036854775807 by decide⟩
      clear hin
      refine wp_region_in ⟨w5, Below.refl _ _⟩ (by kernel_rfl) (by kernel_rfl) ?_
      repeat (go_big_quiet_step ((first
        | (go_at_call 27; exact Makes.after (empty_eq r _ he hr))
        | (go_at_call 11; exact Makes.after (bufW_any B a b g L _ (HB5.out.later (After.below _))))
        | (go_at_call 12; exact Makes.after (bufH_any B a b g L _ (HB5.out.later (After.below _))))
        | (go_at_call 28; exact Makes.after (in_eq r ⟨0, 0, (a : Int), (b : Int)⟩ _ hno hr hfw))
        | (go_at_call 7; exact Makes.after (wakes3_any _)))))
      refine wpQuiet_nil ?_
      rintro _ ⟨n1, rfl⟩
      go_wp2
      go_ret
      exact ⟨rfl, Below.thn (Below.thn Hbw.out Hw5.out) n1.below⟩
    · clear hin
      refine wp_region_in ⟨w5, Below.refl _ _⟩ (by kernel_rfl) (by kernel_rfl) ?_
      repeat (go_big_quiet_step ((first
        | (go_at_call 27; exact Makes.after (empty_eq r _ he hr))
        | (go_at_call 7; exact Makes.after (wakes3_any _)))))
      refine wpQuiet_nil ?_
      rintro _ ⟨n1, rfl⟩
      go_wp2
      go_ret
      exact ⟨rfl, Below.thn (Below.thn Hbw.out Hw5.out) n1.below⟩
  case true =>
  obtain ⟨px, py, aw, ah, rfl, k1, k2, k3, k4⟩ := allInB_true hin
  have hre : emptyR ⟨(px : Int), (py : Int), (aw : Int), (ah : Int)⟩ = false := emptyR_false.2 (by simp only; omega)
  have hrin : inR ⟨(px : Int), (py : Int), (aw : Int), (ah : Int)⟩ ⟨0, 0, (a : Int), (b : Int)⟩ = true := by
    have h := hin
    unfold allInB at h
    rw [Bool.and_eq_true] at h
    exact h.2
  refine Calls.mono (part_yes B a b g px py aw ah L _ HB3.out k1 k2 k3 k4) ?_
  rintro e w4 ⟨gp, rfl, hgp, hP, hb4⟩
  have hs3 := Hw3.out.size
  have hlt3 := HB3.out.lt
  have hglt3 := HB3.out.pix.lt
  have hclt3 := HBc.out.lt
  have hgclt3 := HBc.out.pix.lt
  have Hw4 := Lib.hid (Below.thn Hw3.out hb4)
  have HB4 := Lib.hid (HB3.out.later hb4)
  have HBc4 := Lib.hid (HBc.out.later hb4)
  have hLl := HB3.out.size
  have hLu := HB3.out.u
  have hPl := (cutL_ok hLu.u32 (fit_of k3 k4 hLl)).1
  have hPu := (cutL_ok hLu.u32 (fit_of k3 k4 hLl)).2
  have Hback := Lib.hid (layL_back hLu hLl k3 k4)
  have Hpart := Lib.hid (fun (qx qy qa qb : Nat) (h3 : qx + qa ≤ aw) (h4 : qy + qb ≤ ah) => cutL_cutL (qx := qx) (qy := qy) hLu hLl k3 k4 h3 h4)
  obtain ⟨P, hPP⟩ : ∃ P, cutL a px py aw ah L = P := ⟨_, rfl⟩
  rw [hPP] at hP hPl hPu Hback
  have Hpart' : Hid (∀ (qx qy qa qb : Nat), qx + qa ≤ aw → qy + qb ≤ ah → cutL aw qx qy qa qb P = cutL a (qx + px) (qy + py) qa qb L) := by rw [← hPP]; exact Hpart
  have HP := Lib.hid hP
  have HPl := Lib.hid hPl
  have HPu := Lib.hid hPu
  clear Hpart hPP hP hPl hPu hb4 c0 c1 c2 c3 HB3 HBc hin hLu hLl
  go_upto_region 8 with (fail)
  have hal := Below.al1 w4 (.cells #[.int .i64 (aw : Int), .int .i64 (ah : Int), .slice (some ⟨gp, 0, none⟩) (aw * ah) (aw * ah)] 24)
  have i5 : Im3 (w4.alloc (.cells #[.int .i64 (aw : Int), .int .i64 (ah : Int), .slice (some ⟨gp, 0, none⟩) (aw * ah) (aw * ah)] 24)) w4.heap.size aw ah (.slice (some ⟨gp, 0, none⟩) (aw * ah) (aw * ah)) := Im3.new rfl
  have hw45 : w3.heap.size ≤ w4.heap.size := by have := HP.out.lt; omega
  have Hw5 := Lib.hid (Below.thn Hw4.out hal)
  have HB5 := Lib.hid (HB4.out.later hal)
  have HBc5 := Lib.hid (HBc4.out.later hal)
  have HP5 := Lib.hid (HP.out.later hal)
  have HI5 := Lib.hid i5
  generalize (w4.alloc (.cells #[.int .i64 (aw : Int), .int .i64 (ah : Int), .slice (some ⟨gp, 0, none⟩) (aw * ah) (aw * ah)] 24)) = w5 at *
  clear hal Hw4 HB4 HBc4 HP i5
  obtain ⟨b10, hb10⟩ : ∃ b10, w4.heap.size = b10 := ⟨_, rfl⟩
  rw [hb10] at hw45 HI5 ⊢
  clear hb10
  obtain ⟨c0, c1, c2, c3⟩ := HL1.out.later Hw5.out
  obtain ⟨d0, d1, d2⟩ := HI5.out.cells
  have hmu : aw * ah ≤ 65536 := by
    have h1 : aw * ah ≤ 256 * ah := Nat.mul_le_mul_right ah (by omega)
    have h2 : 256 * ah ≤ 256 * 256 := Nat.mul_le_mul_left 256 (by omega)
    omega
  go_wp2_with fail
  have hbl := blit_yes B a b g aw ah gp 0 (aw * ah) (aw * ah) px py aw ah 0 0 (px : Int) (py : Int) ⟨(px : Int), (py : Int), (aw : Int), (ah : Int)⟩ ⟨(px : Int), (py : Int), (aw : Int), (ah : Int)⟩ ⟨(px : Int), (py : Int), (aw : Int), (ah : Int)⟩ L P w5 HB5.out HP5.out.row (by omega) hBg HPl.out (Nat.le_refl _) (by omega) HPu.out.u32 ⟨k1, by omega⟩ ⟨k2, by omega⟩ rfl hr (shift_to (by omega) (by omega)) hr (and_self _ hre) hr (and_in hrin hre) k1 k2 k3 k4 (shift_back (by omega) (by omega)) (by omega) (by omega)
  rw [Hback.out] at hbl
  refine Calls.mono hbl ?_
  rintro e w6 ⟨rfl, hB6, ht6⟩
  have Hw6 := Lib.hid (Hw5.out.trans (ht6.below (B := W.heap.size) Hw5.out.size (by rintro i rfl; omega)))
  have HB6 := Lib.hid hB6
  have HBc6 := Lib.hid (ht6.stays HBc5.out (show Bc ≠ g by omega) (show gc ≠ g by omega))
  have HP6 := Lib.hid (HP5.out.same (ht6.block gp HP5.out.lt (show gp ≠ g by omega)))
  have HI6 := Lib.hid (HI5.out.same (ht6.block b10 HI5.out.lt (show b10 ≠ g by omega)))
  clear hbl hB6 ht6 c0 c1 c2 c3 d0 d1 d2 Hw5 HB5 HBc5 HP5 HI5
  go_wp2_with fail
  refine Calls.mono (same_any B a b g Bc gc L L _ HB6.out HBc6.out) ?_
  rw [eqL_iff.2 rfl]
  rintro e w7 ⟨rfl, hb7⟩
  have Hw7 := Lib.hid (Below.thn Hw6.out hb7)
  have HB7 := Lib.hid (HB6.out.later hb7)
  have HP7 := Lib.hid (HP6.out.later hb7)
  have HI7 := Lib.hid (HI6.out.later hb7)
  clear hb7 Hw6 HB6 HBc6 HP6 HI6
  obtain ⟨c0, c1, c2, c3⟩ := HL1.out.later Hw7.out
  obtain ⟨d0, d1, d2⟩ := HI7.out.cells
  go_wp2_with fail
  refine Calls.mono (from_yes aw ah gp 0 (aw * ah) (aw * ah) P _ HP7.out.row HPl.out (Nat.le_refl _) (by omega) HPu.out.u32 ⟨k1, by omega⟩ ⟨k2, by omega⟩ rfl) ?_
  rw [cutL_whole HPu.out HPl.out.symm]
  rintro e w8 ⟨B2, g2, rfl, hB2, -, -, -, hb8⟩
  have Hw8 := Lib.hid (Below.thn Hw7.out hb8)
  have HB8 := Lib.hid (HB7.out.later hb8)
  have H28 := Lib.hid hB2
  clear hb8 hB2 Hw7 HB7 HP7 HI7 c0 c1 c2 c3 d0 d1 d2
  obtain ⟨c0, c1, c2, c3⟩ := HL2.out.later Hw8.out
  go_wp2_with fail
  cases hqi : allInB q aw ah
  case false =>
    refine Calls.mono (part_no B2 aw ah g2 P q _ H28.out hq hqi) ?_
    rintro e w9 ⟨rfl, hb9⟩
    have Hw9 := Lib.hid (Below.thn Hw8.out hb9)
    have HB9 := Lib.hid (HB8.out.later hb9)
    clear hb9 c0 c1 c2 c3 Hw8 HB8 H28
    go_upto_region 17 with (fail)
    have hal := Below.al1 w9 (.cells #[.int .i64 0, .int .i64 0, .slice none 0 0] 24)
    have HwA := Lib.hid (Below.thn Hw9.out hal)
    have HBA := Lib.hid (HB9.out.later hal)
    generalize (w9.alloc (.cells #[.int .i64 0, .int .i64 0, .slice none 0 0] 24)) = wA at *
    clear hal Hw9 HB9
    obtain ⟨c0, c1, c2, c3⟩ := HL2.out.later HwA.out
    obtain ⟨d0, d1, d2, d3⟩ := HL1.out.later HwA.out
    go_wp2_with fail
    obtain ⟨t, ht⟩ : ∃ t, shiftR q (px : Int) (py : Int) = t := ⟨_, rfl⟩
    have hft : Fit t := by rw [← ht]; exact shift_fit' _ _ _
    refine Calls.mono (shift_eq q (px : Int) (py : Int) _ ht hq) ?_
    rintro e wB ⟨rfl, hbB⟩
    have HwB := Lib.hid (Below.thn HwA.out hbB)
    have HBB := Lib.hid (HBA.out.later hbB)
    clear hbB HwA HBA c0 c1 c2 c3 d0 d1 d2 d3
    go_wp2_with fail
    cases hti : allInB t a b
    · refine Calls.mono (part_no B a b g L t _ HBB.out hft hti) ?_
      rintro e wC ⟨rfl, hbC⟩
      have HwC := Lib.hid (Below.thn HwB.out hbC)
      clear hbC HwB HBB
      go_wp2_with fail
      refine Calls.mono (wakes3_any _) ?_
      rintro e wD ⟨rfl, hbD⟩
      go_wp2
      go_ret
      exact ⟨rfl, Below.thn (Below.thn (Below.thn Hbw.out HwC.out) (Below.al1 _ _)) hbD⟩
    · obtain ⟨ux, uy, ua, ub, rfl, v1, v2, v3, v4⟩ := allInB_true hti
      refine Calls.mono (part_yes B a b g ux uy ua ub L _ HBB.out v1 v2 v3 v4) ?_
      rintro e wC ⟨gu, rfl, -, -, hbC⟩
      have HwC := Lib.hid (Below.thn HwB.out hbC)
      clear hbC HwB HBB
      go_wp2_with fail
      refine Calls.mono (wakes3_any _) ?_
      rintro e wD ⟨rfl, hbD⟩
      go_wp2
      go_ret
      exact ⟨rfl, Below.thn (Below.thn (Below.thn Hbw.out HwC.out) (Below.al1 _ _)) hbD⟩
  case true =>
  obtain ⟨qx, qy, qa, qb, rfl, n1, n2, n3, n4⟩ := allInB_true hqi
  refine Calls.mono (part_yes B2 aw ah g2 qx qy qa qb P _ H28.out n1 n2 n3 n4) ?_
  rw [Hpart'.out qx qy qa qb n3 n4]
  rintro e w9 ⟨gx, rfl, hgx, hX, hb9⟩
  have HX := Lib.hid hX
  have hLs := HB8.out.size
  have hLu := HB8.out.u
  obtain ⟨hX1, hX2⟩ := cutL_ok hLu.u32 (fit_of (px := qx + px) (py := qy + py) (aw := qa) (ah := qb) (by omega) (by omega) hLs)
  have HX1 := Lib.hid hX1
  have HX2 := Lib.hid hX2
  have Hw9 := Lib.hid (Below.thn Hw8.out hb9)
  have HB9 := Lib.hid (HB8.out.later hb9)
  clear hb9 c0 c1 c2 c3 Hw8 HB8 H28 hX hX1 hX2 hLs hLu hqi Hpart'
  obtain ⟨X, hXX⟩ : ∃ X, cutL a (qx + px) (qy + py) qa qb L = X := ⟨_, rfl⟩
  rw [hXX] at HX HX1 HX2
  have HXX := Lib.hid hXX
  clear hXX
  go_upto_region 17 with (fail)
  have halx := Below.al1 w9 (.cells #[.int .i64 (qa : Int), .int .i64 (qb : Int), .slice (some ⟨gx, 0, none⟩) (qa * qb) (qa * qb)] 24)
  have iA : Im3 (w9.alloc (.cells #[.int .i64 (qa : Int), .int .i64 (qb : Int), .slice (some ⟨gx, 0, none⟩) (qa * qb) (qa * qb)] 24)) w9.heap.size qa qb (.slice (some ⟨gx, 0, none⟩) (qa * qb) (qa * qb)) := Im3.new rfl
  have HwA := Lib.hid (Below.thn Hw9.out halx)
  have HBA := Lib.hid (HB9.out.later halx)
  have HXA := Lib.hid (HX.out.later halx)
  have HIA := Lib.hid iA
  obtain ⟨bx, hbx⟩ : ∃ bx, w9.heap.size = bx := ⟨_, rfl⟩
  rw [hbx] at HIA
  generalize (w9.alloc (.cells #[.int .i64 (qa : Int), .int .i64 (qb : Int), .slice (some ⟨gx, 0, none⟩) (qa * qb) (qa * qb)] 24)) = wA at *
  rw [hbx]
  clear halx iA Hw9 HB9 HX hbx hgx
  obtain ⟨c0, c1, c2, c3⟩ := HL2.out.later HwA.out
  obtain ⟨d0, d1, d2, d3⟩ := HL1.out.later HwA.out
  go_wp2_with fail
  refine Calls.mono (shift_eq ⟨(qx : Int), (qy : Int), (qa : Int), (qb : Int)⟩ (px : Int) (py : Int) _ (shift_more (by omega) (by omega) (by omega) (by omega)) hq) ?_
  rintro e wB ⟨rfl, hbB⟩
  have HwB := Lib.hid (Below.thn HwA.out hbB)
  have HBB := Lib.hid (HBA.out.later hbB)
  have HXB := Lib.hid (HXA.out.later hbB)
  have HIB := Lib.hid (HIA.out.later hbB)
  clear hbB HwA HBA HXA HIA c0 c1 c2 c3 d0 d1 d2 d3
  go_wp2_with fail
  have hpy := part_yes B a b g (qx + px) (qy + py) qa qb L wB HBB.out n1 n2 (by omega) (by omega)
  rw [HXX.out] at hpy
  refine Calls.mono hpy ?_
  rintro e wC ⟨gy, rfl, hgy, hY, hbC⟩
  have HwC := Lib.hid (Below.thn HwB.out hbC)
  have HXC := Lib.hid (HXB.out.later hbC)
  have HIC := Lib.hid (HIB.out.later hbC)
  have HYC := Lib.hid hY
  clear hbC hY hgy hpy HXX HwB HBB HXB HIB
  go_upto_region 18 with (fail)
  have haly := Below.al1 wC (.cells #[.int .i64 (qa : Int), .int .i64 (qb : Int), .slice (some ⟨gy, 0, none⟩) (qa * qb) (qa * qb)] 24)
  have iD : Im3 (wC.alloc (.cells #[.int .i64 (qa : Int), .int .i64 (qb : Int), .slice (some ⟨gy, 0, none⟩) (qa * qb) (qa * qb)] 24)) wC.heap.size qa qb (.slice (some ⟨gy, 0, none⟩) (qa * qb) (qa * qb)) := Im3.new rfl
  have HwD := Lib.hid (Below.thn HwC.out haly)
  have HXD := Lib.hid (HXC.out.later haly)
  have HYD := Lib.hid (HYC.out.later haly)
  have HID := Lib.hid (HIC.out.later haly)
  have HJD := Lib.hid iD
  obtain ⟨bY, hbY⟩ : ∃ bY, wC.heap.size = bY := ⟨_, rfl⟩
  rw [hbY] at HJD
  generalize (wC.alloc (.cells #[.int .i64 (qa : Int), .int .i64 (qb : Int), .slice (some ⟨gy, 0, none⟩) (qa * qb) (qa * qb)] 24)) = wD at *
  rw [hbY]
  clear haly iD hbY HwC HXC HYC HIC
  obtain ⟨d0, d1, d2⟩ := HID.out.cells
  have hmq : qa * qb ≤ 65536 := by
    have h1 : qa * qb ≤ 256 * qb := Nat.mul_le_mul_right qb (by omega)
    have h2 : 256 * qb ≤ 256 * 256 := Nat.mul_le_mul_left 256 (by omega)
    omega
  go_wp2_with fail
  refine Calls.mono (from_yes qa qb gx 0 (qa * qb) (qa * qb) X _ HXD.out.row HX1.out (Nat.le_refl _) (by omega) HX2.out.u32 ⟨n1, by omega⟩ ⟨n2, by omega⟩ rfl) ?_
  rw [cutL_whole HX2.out HX1.out.symm]
  rintro e wE ⟨B3, g3, rfl, hB3, -, -, -, hbE⟩
  have HwE := Lib.hid (Below.thn HwD.out hbE)
  have HYE := Lib.hid (HYD.out.later hbE)
  have HJE := Lib.hid (HJD.out.later hbE)
  have H3E := Lib.hid hB3
  clear hbE hB3 d0 d1 d2 HwD HXD HYD HID HJD
  obtain ⟨d0, d1, d2⟩ := HJE.out.cells
  go_wp2_with fail
  refine Calls.mono (from_yes qa qb gy 0 (qa * qb) (qa * qb) X _ HYE.out.row HX1.out (Nat.le_refl _) (by omega) HX2.out.u32 ⟨n1, by omega⟩ ⟨n2, by omega⟩ rfl) ?_
  rw [cutL_whole HX2.out HX1.out.symm]
  rintro e wF ⟨B4, g4, rfl, hB4, -, -, -, hbF⟩
  have HwF := Lib.hid (Below.thn HwE.out hbF)
  have H3F := Lib.hid (H3E.out.later hbF)
  have H4F := Lib.hid hB4
  clear hbF hB4 d0 d1 d2 HwE HYE HJE H3E
  go_wp2_with fail
  refine Calls.mono (same_any B3 qa qb g3 B4 g4 X X _ H3F.out H4F.out) ?_
  rw [eqL_iff.2 rfl]
  rintro e wG ⟨rfl, hbG⟩
  have HwG := Lib.hid (Below.thn HwF.out hbG)
  clear hbG HwF H3F H4F
  go_wp2_with fail
  refine Calls.mono (wakes3_any _) ?_
  rintro e wH ⟨rfl, hbH⟩
  go_wp2
  go_ret
  exact ⟨rfl, Below.thn (Below.thn Hbw.out HwG.out) hbH⟩

end Go.Proofs.Ythmnmicjnpafjaa
