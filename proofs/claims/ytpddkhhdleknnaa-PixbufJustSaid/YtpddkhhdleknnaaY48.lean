/- The walk of the statement PixbufJust. -/
import Derived.Test.YtpddkhhdleknnaaY44
import Derived.Test.YtpddkhhdleknnaaY47
import Derived.Test.YtpddkhhdleknnaaY13
namespace Go.Proofs.Ytpddkhhdleknnaa
open Go.RowKit

abbrev ActC (d x y c : Int) (r : Rc) (mw mh : Int) (s : Value) (t : Rc) (dx dy : Int) : Array Value :=
  #[.int .i64 d, .int .i64 x, .int .i64 y, .int .u32 c, .int .i64 r.x, .int .i64 r.y, .int .i64 r.a, .int .i64 r.b, .int .i64 mw, .int .i64 mh, s, .int .i64 t.x, .int .i64 t.y, .int .i64 t.a, .int .i64 t.b, .int .i64 dx, .int .i64 dy]

theorem act_cells {w : World} {B : Nat} {d x y c : Int} {r : Rc} {mw mh : Int} {s : Value} {t : Rc} {dx dy : Int} (h : w.heap[B]? = some (.cells (ActC d x y c r mw mh s t dx dy) 54)) :
    (w.cell? ⟨B, 3, none⟩ = some (.int .u32 c) ∧ w.cell? ⟨B, 10, none⟩ = some s) ∧ (w.cell? ⟨B, 4, none⟩ = some (.int .i64 r.x) ∧ w.cell? ⟨B, 5, none⟩ = some (.int .i64 r.y) ∧ w.cell? ⟨B, 6, none⟩ = some (.int .i64 r.a) ∧ w.cell? ⟨B, 7, none⟩ = some (.int .i64 r.b)) ∧
      (w.cell? ⟨B, 11, none⟩ = some (.int .i64 t.x) ∧ w.cell? ⟨B, 12, none⟩ = some (.int .i64 t.y) ∧ w.cell? ⟨B, 13, none⟩ = some (.int .i64 t.a) ∧ w.cell? ⟨B, 14, none⟩ = some (.int .i64 t.b)) ∧ w.cell? ⟨B, 15, none⟩ = some (.int .i64 dx) ∧ w.cell? ⟨B, 16, none⟩ = some (.int .i64 dy) := by
  refine ⟨⟨?_, ?_⟩, ⟨?_, ?_, ?_, ?_⟩, ⟨?_, ?_, ?_, ?_⟩, ?_, ?_⟩ <;> simp [World.cell?, h]
theorem act_rest {w : World} {B : Nat} {d x y c : Int} {r : Rc} {mw mh : Int} {s : Value} {t : Rc} {dx dy : Int} (h : w.heap[B]? = some (.cells (ActC d x y c r mw mh s t dx dy) 54)) :
    w.cell? ⟨B, 0, none⟩ = some (.int .i64 d) ∧ w.cell? ⟨B, 1, none⟩ = some (.int .i64 x) ∧ w.cell? ⟨B, 2, none⟩ = some (.int .i64 y) ∧ w.cell? ⟨B, 8, none⟩ = some (.int .i64 mw) ∧ w.cell? ⟨B, 9, none⟩ = some (.int .i64 mh) := by
  refine ⟨?_, ?_, ?_, ?_, ?_⟩ <;> simp [World.cell?, h]

/-- Where a Copy is told OK, and the part has the pixel: what it takes lies in the picture. -/
theorem copy_from {wd ht : Nat} {t : Rc} {dx dy : Int} (hw : wd ≤ 256) (hh : ht ≤ 256) (hdx : -9223372036854775808 ≤ dx ∧ dx ≤ 9223372036854775807) (hdy : -9223372036854775808 ≤ dy ∧ dy ≤ 9223372036854775807) (h0 : copyE wd ht t dx dy = 0) {X Y : Nat} (h : hasR t X Y = true) :
    copyB wd ht t dx dy = true ∧ ∃ xx yy : Nat, (X : Int) - dx = (xx : Int) ∧ (Y : Int) - dy = (yy : Int) ∧ xx < wd ∧ yy < ht ∧ IntKind.i64.wrap ((X : Int) - dx) = (xx : Int) ∧ IntKind.i64.wrap ((Y : Int) - dy) = (yy : Int) := by
  obtain ⟨he, h3, h4⟩ := has_iff.1 h
  have hb : copyB wd ht t dx dy = true := by
    cases hb : copyB wd ht t dx dy
    · unfold copyE at h0
      rw [he, hb] at h0
      simp at h0
    · rfl
  obtain ⟨tx, ty, aw, ah, fx, fy, rfl, -, s1, s2, s3, s4, t3, t4, e1, e2⟩ := copyB_true hw hh hdx hdy hb
  simp only at h3 h4
  refine ⟨hb, fx + (X - tx), fy + (Y - ty), by omega, by omega, by omega, by omega, ?_, ?_⟩
  · rw [IntWalk.i64_in _ (by omega)]; omega
  · rw [IntWalk.i64_in _ (by omega)]; omega
/-- Where a Copy is refused nothing turns. -/
theorem copy_stays {wd ht : Nat} {t : Rc} {dx dy : Int} (h0 : copyE wd ht t dx dy ≠ 0) : copyB wd ht t dx dy = false := by
  unfold copyE at h0
  cases hb : copyB wd ht t dx dy
  · rfl
  · rw [hb] at h0; simp at h0

set_option maxRecDepth 100000 in
set_option maxHeartbeats 16000000 in
theorem just_any (wd ht : Int) (p : Option Addr) (cp : Nat) (S : List Int) (d x y c : Int) (r : Rc) (mw mh : Int) (pm : Option Addr) (mn mc : Nat) (t : Rc) (dx dy : Int) (w : World) (hI : Img w wd ht p cp S) (hfr : Fit r) (hft : Fit t) (hc : 0 ≤ c ∧ c < 4294967296)
    (hdx : -9223372036854775808 ≤ dx ∧ dx ≤ 9223372036854775807) (hdy : -9223372036854775808 ≤ dy ∧ dy ≤ 9223372036854775807) :
    Makes Try.prog 7 #[IV wd ht (.slice p S.length cp), ActV d x y c r mw mh (.slice pm mn mc) t dx dy] w (.bool true) := by
  unfold Makes
  go_enter Try.func7, Try.ntmps7
  go_upto_region 1 with (fail)
  have hgB := heap_pushed [.cells #[.int .i64 wd, .int .i64 ht, .slice p S.length cp] 39, .cells (ActC d x y c r mw mh (.slice pm mn mc) t dx dy) 54] w
  simp only [List.foldl_cons, List.foldl_nil] at hgB
  have hbw := Below.al2 w (.cells #[.int .i64 wd, .int .i64 ht, .slice p S.length cp] 39) (.cells (ActC d x y c r mw mh (.slice pm mn mc) t dx dy) 54)
  generalize ((w.alloc (.cells #[.int .i64 wd, .int .i64 ht, .slice p S.length cp] 39)).alloc (.cells (ActC d x y c r mw mh (.slice pm mn mc) t dx dy) 54)) = W at *
  have i0 : Im3 W w.heap.size wd ht (.slice p S.length cp) := (hgB 0 _).2 rfl
  have x0 : W.heap[w.heap.size + 1]? = some (.cells (ActC d x y c r mw mh (.slice pm mn mc) t dx dy) 54) := (hgB 1 _).2 rfl
  clear hgB
  obtain ⟨m0, m1, m2⟩ := i0.cells
  obtain ⟨⟨a3, a10⟩, ⟨a4, a5, a6, a7⟩, ⟨a11, a12, a13, a14⟩, a15, a16⟩ := act_cells x0
  obtain ⟨b0, b1, b2, b8, b9⟩ := act_rest x0
  have HI0 := Lib.hid i0
  have HX0 := Lib.hid x0
  have Hbw := Lib.hid hbw
  have HSr := Lib.hid (hI.row.below hbw)
  have HSu := Lib.hid hI.u
  have HSc := Lib.hid (And.intro hI.len hI.cap)
  clear i0 x0 hbw hI
  go_wp2_with fail
  refine Calls.mono (great_one wd ht p S.length cp W.heap.size 1 pm mn mc _ (cell_at rfl rfl)) ?_
  rintro e w1 ⟨rfl, hb1⟩
  have Hw1 := Lib.hid (Below.thn (Below.al1 W _) hb1)
  clear hb1 m0 m1 m2 a3 a4 a5 a6 a7 a10 a11 a12 a13 a14 a15 a16 b0 b1 b2 b8 b9
  obtain ⟨big, hbig⟩ : ∃ big, (decide (1000 < S.length) || decide (1000 < mn)) = big := ⟨_, rfl⟩
  rw [hbig]
  clear hbig
  generalize ActV d x y c r mw mh (.slice pm mn mc) t dx dy = AV
  cases big
  case true =>
    go_wp2_with fail
    refine Calls.mono (wakes3_any _) ?_
    rintro e w2 ⟨rfl, hb2⟩
    go_wp2
    go_ret
    exact ⟨rfl, Below.thn (Below.thn Hbw.out Hw1.out) hb2⟩
  case false =>
  obtain ⟨m0, m1, m2⟩ := (HI0.out.later Hw1.out).cells
  go_wp2_with fail
  cases hp : pictB wd ht S.length
  case false =>
    refine Calls.mono (from_no wd ht p S.length cp _ hp) ?_
    rintro e w3 ⟨rfl, hb3⟩
    have Hw3 := Lib.hid (Below.thn Hw1.out hb3)
    clear hp m0 m1 m2 hb3 Hw1
    go_wp2_with fail
    refine Calls.mono (wakes3_any _) ?_
    rintro e w5 ⟨rfl, hb5⟩
    go_wp2
    go_ret
    exact ⟨rfl, Below.thn (Below.thn Hbw.out Hw3.out) hb5⟩
  case true =>
  obtain ⟨a, b, fb, fo, rfl, rfl, ha, hb, hab, rfl⟩ := pict_open hp HSr.out
  refine Calls.mono (from_yes a b fb fo S.length cp S _ (HSr.out.below Hw1.out) rfl HSc.out.1 HSc.out.2 HSu.out ha hb hab) ?_
  rintro e w3 ⟨B, g, rfl, hB, hB1, hg1, hBg, hb3⟩
  have hs1 := Hw1.out.size
  have hwW := (Array.getElem?_eq_some_iff.1 HX0.out).1
  have Hw3 := Lib.hid (Below.thn Hw1.out hb3)
  have HB := Lib.hid hB
  have hBl := HB.out.lt
  have hgl := HB.out.pix.lt
  clear hp m0 m1 m2 hb3 hB HSr HSu HSc Hw1
  generalize cutL a 0 0 a b S = L at *
  go_wp2_with fail
  refine Calls.mono (clone_any B a b g L _ HB.out) ?_
  rintro e w4 ⟨Bb, gb, rfl, hBb, hBb1, hgb1, hBgb, hb4⟩
  have Hw4 := Lib.hid (Below.thn Hw3.out hb4)
  have HB4 := Lib.hid (HB.out.later hb4)
  have HBb4 := Lib.hid hBb
  have hBbl := hBb.lt
  have hgbl := hBb.pix.lt
  clear hBb hb4 HB
  go_wp2_with fail
  refine Calls.mono (clone_any B a b g L _ HB4.out) ?_
  rintro e w5 ⟨Bd, gd, rfl, hBd, hBd1, hgd1, hBgd, hb5⟩
  have Hw5 := Lib.hid (Below.thn Hw4.out hb5)
  have HB5 := Lib.hid (HB4.out.later hb5)
  have HBb5 := Lib.hid (HBb4.out.later hb5)
  have HBd5 := Lib.hid hBd
  have HX := Lib.hid (show ∀ Wn, Below W.heap.size W Wn → Wn.heap[w.heap.size + 1]? = some (.cells (ActC d x y c r mw mh (.slice pm mn mc) t dx dy) 54) from fun Wn h => (h.block _ hwW).trans HX0.out)
  have hs3 := Hw3.out.size
  have hs4 := Hw4.out.size
  clear hBd hb5 HB4 HBb4
  obtain ⟨⟨a3, -⟩, ⟨a4, a5, a6, a7⟩, -, -, -⟩ := act_cells (HX.out _ Hw5.out)
  go_wp2_with fail
  refine Calls.mono (fill_any Bb a b gb c r L _ HBb5.out hBgb hfr hc) ?_
  rintro e w6 ⟨rfl, ⟨L1, hB1', hL1⟩, ht6⟩
  have Hw6 := Lib.hid (Hw5.out.trans (ht6.below (B := W.heap.size) Hw5.out.size (by rintro i rfl; omega)))
  have HB6 := Lib.hid (ht6.stays HB5.out (show B ≠ gb by omega) (show g ≠ gb by omega))
  have HBd6 := Lib.hid (ht6.stays HBd5.out (show Bd ≠ gb by omega) (show gd ≠ gb by omega))
  have HBb6 := Lib.hid hB1'
  have HL1 := Lib.hid hL1
  clear hB1' hL1 ht6 a3 a4 a5 a6 a7 HB5 HBb5 HBd5
  obtain ⟨-, -, ⟨a11, a12, a13, a14⟩, a15, a16⟩ := act_cells (HX.out _ Hw6.out)
  go_wp2_with fail
  refine Calls.mono (copy_any Bd a b gd t dx dy L _ HBd6.out hBgd hft hdx hdy) ?_
  rintro e w7 ⟨rfl, ⟨L2, hB2, hL2⟩, ht7⟩
  have Hw7 := Lib.hid (Hw6.out.trans (ht7.below (B := W.heap.size) Hw6.out.size (by rintro i rfl; omega)))
  have HB7 := Lib.hid (ht7.stays HB6.out (show B ≠ gd by omega) (show g ≠ gd by omega))
  have HBb7 := Lib.hid (ht7.stays HBb6.out (show Bb ≠ gd by omega) (show gb ≠ gd by omega))
  have HBd7 := Lib.hid hB2
  have HL2 := Lib.hid hL2
  clear hB2 hL2 ht7 a11 a12 a13 a14 a15 a16 HB6 HBb6 HBd6
  obtain ⟨fc, hfc⟩ : ∃ fc, copyE a b t dx dy = fc := ⟨_, rfl⟩
  rw [hfc]
  have Hfc := Lib.hid hfc
  clear hfc
  go_wp2_with fail
  obtain ⟨n, hn⟩ : ∃ n, a * b = n := ⟨_, rfl⟩
  have hnm : IntKind.i64.wrap ((a : Int) * (b : Int)) = (n : Int) := by
    rw [← hn, Int.natCast_mul]
    refine IntWalk.i64_in _ ?_
    have h1 : a * b ≤ 256 * b := Nat.mul_le_mul_right b ha.2
    have h2 : 256 * b ≤ 256 * 256 := Nat.mul_le_mul_left 256 hb.2
    rw [← Int.natCast_mul]
    omega
  have hnb : n ≤ 65536 := by
    rw [← hn]
    have h1 : a * b ≤ 256 * b := Nat.mul_le_mul_right b ha.2
    have h2 : 256 * b ≤ 256 * 256 := Nat.mul_le_mul_left 256 hb.2
    omega
  have hm24 := mask24 c hc
  go_loopw [10] (fun i wr => ∃ k : Nat, k ≤ n ∧ i = .int .i64 k ∧ Hid (Below w7.heap.size w7 wr)) (fun i _ => n - (intOf i).toNat)
  case atStart => exact ⟨0, by omega, rfl, Lib.hid (Below.refl _ _)⟩
  case round =>
    obtain ⟨k, hk, rfl, Hb⟩ := hrel
    obtain ⟨m0, m1, m2⟩ := (HI0.out.later (Hw7.out.trans (Hb.out.mono Hw7.out.size))).cells
    by_cases hlt : k < n
    · have Hlt := Lib.hid hlt
      obtain ⟨X, Y, hX, hY, hXY⟩ : ∃ X Y : Nat, X < a ∧ Y < b ∧ Y * a + X = k := by
        refine ⟨k % a, k / a, Nat.mod_lt _ (by omega), ?_, ?_⟩
        · rw [Nat.div_lt_iff_lt_mul (by omega), Nat.mul_comm, hn]; exact hlt
        · rw [Nat.mul_comm]; exact Nat.div_add_mod k a
      have hu1 : (k : Int) % (a : Int) = (X : Int) := by
        rw [← hXY]
        have : (Y * a + X) % a = X := by rw [Nat.mul_comm, Nat.mul_add_mod, Nat.mod_eq_of_lt hX]
        omega
      have hu2 : (k : Int) / (a : Int) = (Y : Int) := by
        rw [← hXY]
        have : (Y * a + X) / a = Y := by rw [Nat.mul_comm, Nat.mul_add_div (by omega), Nat.div_eq_of_lt hX, Nat.add_zero]
        omega
      have HXY := Lib.hid hXY
      clear hXY
      have M0 := After.rule m0
      have hq' := After.ne wr
      go_upto_region 13 with (fail)
      refine wp_region_in ⟨wr, Below.refl _ _⟩ (by kernel_rfl) (by kernel_rfl) ?_
      repeat (go_big_quiet_step (fail))
      refine wpQuiet_nil ?_
      rintro _ ⟨n1, rfl⟩
      obtain ⟨w9, hw9⟩ : ∃ w9, w9 = n1.world := ⟨_, rfl⟩
      have Hb9 := Lib.hid (show Below w7.heap.size w7 w9 by rw [hw9]; exact Below.thn Hb.out n1.below)
      rw [← hw9]
      clear hw9 n1 hq' M0 m0 m1 m2 Hb
      rw [hu1]
      clear hu1 hu2
      have hiL : Y * a + X < L.length := by rw [← HB7.out.size]; exact place_lt hX hY
      have hiL1 : Y * a + X < L1.length := by rw [← HBb7.out.size]; exact place_lt hX hY
      have hiL2 : Y * a + X < L2.length := by rw [← HBd7.out.size]; exact place_lt hX hY
      obtain ⟨v0, hv0⟩ : ∃ v, L[Y * a + X]'hiL = v := ⟨_, rfl⟩
      have Hv0 := Lib.hid hv0
      go_wp2_with fail
      refine Calls.mono (at_in B a b g X Y L _ (HB7.out.later Hb9.out) hX hY hiL) ?_
      rw [hv0]
      rintro e wA ⟨rfl, hbA⟩
      have HbA := Lib.hid (Below.thn Hb9.out hbA)
      clear hbA Hb9 hv0
      go_wp2_with fail
      obtain ⟨hr, hhr⟩ : ∃ hr, hasR r X Y = hr := ⟨_, rfl⟩
      obtain ⟨v1, hv1⟩ : ∃ v, L1[Y * a + X]'hiL1 = v := ⟨_, rfl⟩
      have Hv1 := Lib.hid (show v1 = if hr = true then cut24 c else v0 by
        rw [← hv1]
        have h := HL1.out X Y hX hY
        rw [List.getElem?_eq_getElem hiL1, hhr, List.getElem?_eq_getElem hiL, Hv0.out] at h
        cases hr
        · exact Option.some.inj h
        · exact Option.some.inj h)
      refine Calls.mono (at_in Bb a b gb X Y L1 _ (HBb7.out.later HbA.out) hX hY hiL1) ?_
      rw [hv1]
      rintro e wB ⟨rfl, hbB⟩
      have HbB := Lib.hid (Below.thn HbA.out hbB)
      clear hbB HbA hv1
      obtain ⟨⟨a3, -⟩, ⟨a4, a5, a6, a7⟩, -, -, -⟩ := act_cells (HX.out _ (Hw7.out.trans (HbB.out.mono Hw7.out.size)))
      go_wp2_with fail
      refine Calls.mono (has_eq r (X : Int) (Y : Int) _ hhr hfr) ?_
      rintro e wC ⟨rfl, hbC⟩
      have HbC := Lib.hid (Below.thn HbB.out hbC)
      clear hbC HbB a3 a4 a5 a6 a7
      obtain ⟨⟨a3, -⟩, ⟨a4, a5, a6, a7⟩, -, -, -⟩ := act_cells (HX.out _ (Hw7.out.trans (HbC.out.mono Hw7.out.size)))
      have Hhr := Lib.hid hhr
      clear hhr
      cases hr
      case' false =>
        obtain rfl : v0 = v1 := by simpa using Hv1.out.symm
      case' true =>
        obtain rfl : v1 = cut24 c := by simpa using Hv1.out
      all_goals
        clear Hv1
        go_wp2_with fail
        refine Calls.mono (has_eq r (X : Int) (Y : Int) _ Hhr.out hfr) ?_
        rintro e wD ⟨rfl, hbD⟩
        have HbD := Lib.hid (Below.thn HbC.out hbD)
        clear hbD HbC a3 a4 a5 a6 a7
        go_wp2_with fail
        obtain ⟨v2, hv2⟩ : ∃ v, L2[Y * a + X]'hiL2 = v := ⟨_, rfl⟩
        have Hv2 := Lib.hid hv2
        refine Calls.mono (at_in Bd a b gd X Y L2 _ (HBd7.out.later HbD.out) hX hY hiL2) ?_
        rw [hv2]
        rintro e wE ⟨rfl, hbE⟩
        have HbE := Lib.hid (Below.thn HbD.out hbE)
        have hcopy := HL2.out X Y hX hY
        rw [List.getElem?_eq_getElem hiL2, hv2, List.getElem?_eq_getElem hiL, Hv0.out] at hcopy
        clear hbE HbD hv2
        by_cases h0 : fc = 0
        · have hb0 : (fc == 0) = true := by simpa using h0
          obtain ⟨-, -, ⟨a11, a12, a13, a14⟩, a15, a16⟩ := act_cells (HX.out _ (Hw7.out.trans (HbE.out.mono Hw7.out.size)))
          have Hcopy := Lib.hid hcopy
          have H0 := Lib.hid h0
          clear hcopy h0
          go_wp2_with fail
          cases hht : hasR t X Y
          · refine Calls.mono (has_eq t (X : Int) (Y : Int) _ hht hft) ?_
            rintro e wF ⟨rfl, hbF⟩
            have HbF := Lib.hid (Below.thn HbE.out hbF)
            have e9 : v2 = v0 := by
              have h := Hcopy.out
              rw [hht, Bool.and_false, if_neg (by simp)] at h
              exact Option.some.inj h
            subst e9
            clear hbF HbE a11 a12 a13 a14 a15 a16 hht Hcopy
            go_wp2
            go_roundw
            case rel => exact ⟨k + 1, by have := Hlt.out; omega, by go_num, HbF⟩
            case measure => have := Hlt.out; simp [intOf]; omega
          · refine Calls.mono (has_eq t (X : Int) (Y : Int) _ hht hft) ?_
            rintro e wF ⟨rfl, hbF⟩
            have HbF := Lib.hid (Below.thn HbE.out hbF)
            obtain ⟨hcb, xx, yy, g1, g2, hxl, hyl, hwx, hwy⟩ := copy_from ha.2 hb.2 hdx hdy (Hfc.out.trans H0.out) hht
            have hiX : yy * a + xx < L.length := by rw [← HB7.out.size]; exact place_lt hxl hyl
            have e9 : L[yy * a + xx]'hiX = v2 := by
              have h := Hcopy.out
              rw [hht, hcb, g1, g2, Bool.true_and, if_pos rfl, show ((yy : Int)).toNat = yy by omega, show ((xx : Int)).toNat = xx by omega, List.getElem?_eq_getElem hiX] at h
              exact (Option.some.inj h).symm
            clear a11 a12 a13 a14 a15 a16 hht Hcopy g1 g2 hbF HbE hcb
            obtain ⟨-, -, -, a15, a16⟩ := act_cells (HX.out _ (Hw7.out.trans (HbF.out.mono Hw7.out.size)))
            go_wp2_with fail
            refine Calls.mono (at_in B a b g xx yy L _ (HB7.out.later HbF.out) hxl hyl hiX) ?_
            rw [e9]
            rintro e wG ⟨rfl, hbG⟩
            have HbG := Lib.hid (Below.thn HbF.out hbG)
            clear hbG HbF hwx hwy e9 a15 a16
            go_wp2
            go_roundw
            case rel => exact ⟨k + 1, by have := Hlt.out; omega, by go_num, HbG⟩
            case measure => have := Hlt.out; simp [intOf]; omega
        · have hb0 : (fc == 0) = false := by simpa using h0
          have e9 : v2 = v0 := by
            rw [copy_stays (by rw [Hfc.out]; exact h0), Bool.false_and, if_neg (by simp)] at hcopy
            exact Option.some.inj hcopy
          subst e9
          clear hcopy h0
          go_wp2
          go_roundw
          case rel => exact ⟨k + 1, by have := Hlt.out; omega, by go_num, HbE⟩
          case measure => have := Hlt.out; simp [intOf]; omega
    · have Hw8 := Lib.hid (Hw7.out.trans (Hb.out.mono Hw7.out.size))
      have HB8 := Lib.hid (HB7.out.later Hb.out)
      have HBb8 := Lib.hid (HBb7.out.later Hb.out)
      have hg8 := HB8.out.pix.lt
      have hB8 := HB8.out.lt
      clear hnm hm24
      go_wp2_with fail
      refine Calls.mono (diff_any B a b g Bb gb L L1 _ HB8.out HBb8.out) ?_
      rintro e w9 ⟨u, rfl, hown, hb9⟩
      replace hown : w9.ownsRow wr.heap.size 30 4 u (unlL a b L L1).length (flatR (unlL a b L L1)) := hown
      have hrow : Row encR 4 w9 u (unlL a b L L1) := owns_row' (enc := encR) (k := 4) (fun _ => rfl) hown
      have Hug := Lib.hid (show ∀ q, u.ownBlock = some q → q ≠ g from fun q hq => by have := (hown.lt q hq).1; omega)
      have hfr9 := unlL_fit (wd := a) (ht := b) (L := L) (M := L1)
      have hnil := unlL_nil (L := L) (M := L1) ha.2 hb.2 HB8.out.size HBb8.out.size
      have Hrc := Lib.hid (fun q hq => unlL_rc (L := L) (M := L1) ha.2 hb.2 (r := q) hq)
      have Hpx := Lib.hid (fun X Y => unlL_pix (L := L) (M := L1) ha.2 hb.2 X Y)
      have his := unlL_is a b L L1
      have hl9 := hrow.len
      obtain ⟨l, hl⟩ : ∃ l, unlL a b L L1 = l := ⟨_, rfl⟩
      rw [hl] at hrow hfr9 hnil his hl9 Hrc
      have Hpx2 := Lib.hid (show ∀ X Y : Nat, pix l X Y = true ↔ (Y < b ∧ X < a ∧ L[Y * a + X]? ≠ L1[Y * a + X]?) from fun X Y => by rw [← hl]; exact Hpx.out X Y)
      have Hrow := Lib.hid hrow
      have Hfr9 := Lib.hid hfr9
      have Hw9 := Lib.hid (Hw8.out.trans (hb9.mono Hw8.out.size))
      have HB9 := Lib.hid (HB8.out.later hb9)
      have HBb9 := Lib.hid (HBb8.out.later hb9)
      have Hnil := Lib.hid hnil
      have His := Lib.hid his
      have Hl := Lib.hid hl
      obtain ⟨pu, cu, rfl, hcu, hmu, -⟩ := hrow
      clear hown hfr9 hb9 hnil his hl HB8 HBb8 Hpx m0 m1 m2
      have hz0 : ((l.length : Int) == 0) = eqL L L1 := by
        rw [← Hnil.out, Bool.eq_iff_iff]
        simp
      go_wp2_with fail
      refine Calls.mono (isRg_any _ l _ Hrow.out Hfr9.out) ?_
      rw [His.out]
      rintro e w10 ⟨rfl, hb10⟩
      have Hw10 := Lib.hid (Below.thn Hw9.out hb10)
      have HB10 := Lib.hid (HB9.out.later hb10)
      have HBb10 := Lib.hid (HBb9.out.later hb10)
      have Hrow10 := Lib.hid (Hrow.out.below hb10)
      clear hb10 HB9 HBb9 Hrow
      obtain ⟨sm, hsm⟩ : ∃ sm, eqL L L1 = sm := ⟨_, rfl⟩
      rw [hsm] at hz0
      go_wp2_with fail
      refine Calls.mono (same_any B a b g Bb gb L L1 _ HB10.out HBb10.out) ?_
      rw [hsm]
      rintro e w11 ⟨rfl, hb11⟩
      have Hw11 := Lib.hid (Below.thn Hw10.out hb11)
      have HB11 := Lib.hid (HB10.out.later hb11)
      have HBb11 := Lib.hid (HBb10.out.later hb11)
      have Hrow11 := Lib.hid (Hrow10.out.below hb11)
      clear hb11 HB10 HBb10 Hrow10 hsm
      cases sm
      all_goals
        go_wp2
        go_loopw [19] (fun iv wr => ∃ (k : Nat) (Lk : List Int), k ≤ l.length ∧ iv = .int .i64 k ∧ Hid (Below W.heap.size W wr) ∧ Hid (BufAt wr B a b g Lk) ∧ Hid (BufAt wr Bb a b gb L1) ∧ Hid (Row encR 4 wr (.slice pu l.length cu) l) ∧
          Hid (∀ X Y : Nat, X < a → Y < b → Lk[Y * a + X]? = if pix (l.take k) X Y = true then L1[Y * a + X]? else L[Y * a + X]?)) (fun iv _ => l.length - (intOf iv).toNat)
        case atStart => exact ⟨0, L, Nat.zero_le _, rfl, Hw11, HB11, HBb11, Hrow11, Lib.hid (fun X Y _ _ => by simp [pix])⟩
        case round =>
          obtain ⟨k, Lk, hk, rfl, HwK, HBK, HBbK, HrowK, Hinv⟩ := hrel
          by_cases hlt : k < l.length
          · obtain ⟨px, py, aw, ah, hq, q1, q2, q3, q4, hqn⟩ := Hrc.out l[k] (List.getElem_mem hlt)
            have hfq := Hfr9.out l[k] (List.getElem_mem hlt)
            have hin : inR l[k] r = true := by
              rw [hq]
              refine in_of_pixels q1 q2 (by omega) (by omega) fun X Y h => ?_
              rw [← hq] at h
              have hb' := h
              rw [hq] at hb'
              have hbx := (has_iff.1 hb').2
              simp only at hbx
              cases hh : hasR r X Y
              · have h2 := HL1.out X Y (by omega) (by omega)
                rw [hh, if_neg (by simp)] at h2
                exact absurd h2.symm (hqn X Y h)
              · rfl
            have Hlt := Lib.hid hlt
            have Hqt := Lib.hid (show l.take (k + 1) = l.take k ++ [l[k]] from List.take_succ_eq_append_getElem hlt)
            obtain ⟨pu', cu', he, -, -, hru⟩ := HrowK.out
            simp only [Value.slice.injEq, true_and] at he
            obtain ⟨rfl, rfl⟩ := he
            obtain ⟨bu, ou, rfl, hbu, hlies⟩ := hru.rc hlt
            have Hlies := Lib.hid (show ∀ Wn, Below wr.heap.size wr Wn → LiesAt Wn bu (ou + k * 4) l[k] from fun Wn hn => (hlies k hlt).later hn)
            have hbg : bu ≠ g := Hug.out bu rfl
            obtain ⟨c0, c1, c2, c3⟩ := hlies k hlt
            have Hin := Lib.hid hin
            have Hfq := Lib.hid hfq
            have Hqn := Lib.hid hqn
            have hfitB := HBbK.out.fit q3 q4
            have hgK := HBK.out.pix.lt
            have hBgK : B ≠ g := hBg
            have k0 : (0 : Int) ≤ (k : Int) := by omega
            have k1 : (k : Int) < (l.length : Int) := by omega
            clear hlies hru hin hfq hqn
            generalize l[k] = q at *
            have hp := part_yes Bb a b gb px py aw ah L1 wr HBbK.out q1 q2 q3 q4
            rw [← hq] at hp
            have Hq := Lib.hid hq
            have Hp := Lib.hid hp
            clear hq hp
            go_wp2_with fail
            refine Calls.mono Hp.out ?_
            rintro e wA ⟨g9, rfl, hg9, hP9, hbA⟩
            have HP9 := Lib.hid hP9
            have HbA := Lib.hid hbA
            clear c0 c1 c2 c3 hP9 hbA Hp
            have hsA := HbA.out.size
            have hal := Below.al1 wA (.cells #[.int .i64 (aw : Int), .int .i64 (ah : Int), .slice (some ⟨g9, 0, none⟩) (aw * ah) (aw * ah)] 39)
            have iA : Im3 (wA.alloc (.cells #[.int .i64 (aw : Int), .int .i64 (ah : Int), .slice (some ⟨g9, 0, none⟩) (aw * ah) (aw * ah)] 39)) wA.heap.size aw ah (.slice (some ⟨g9, 0, none⟩) (aw * ah) (aw * ah)) := Im3.new rfl
            go_upto_region 32 with (fail)
            generalize (wA.alloc (.cells #[.int .i64 (aw : Int), .int .i64 (ah : Int), .slice (some ⟨g9, 0, none⟩) (aw * ah) (aw * ah)] 39)) = wB at *
            have hbB := Below.thn HbA.out hal
            have HbB := Lib.hid hbB
            have HPB := Lib.hid (HP9.out.later hal)
            have HiA := Lib.hid iA
            obtain ⟨-, ⟨a4, a5, a6, a7⟩, -, -, -⟩ := act_cells (HX.out _ (HwK.out.trans (hbB.mono HwK.out.size)))
            obtain ⟨c0, c1, c2, c3⟩ := Hlies.out _ hbB
            have A4 := After.rule a4
            have A5 := After.rule a5
            have A6 := After.rule a6
            have A7 := After.rule a7
            have C0 := After.rule c0
            have C1 := After.rule c1
            have C2 := After.rule c2
            have C3 := After.rule c3
            have hq' := After.ne wB
            clear hal iA hbB HP9 a4 a5 a6 a7 c0 c1 c2 c3
            refine wp_region_in ⟨wB, Below.refl _ _⟩ (by kernel_rfl) (by kernel_rfl) ?_
            repeat (go_big_quiet_step ((go_at_call 54; exact Makes.after (in_eq q r _ Hin.out Hfq.out hfr))))
            refine wpQuiet_nil ?_
            rintro _ ⟨n1, rfl⟩
            obtain ⟨wC, hwC⟩ : ∃ wC, wC = n1.world := ⟨_, rfl⟩
            have hbC : Below wB.heap.size wB wC := by rw [hwC]; exact n1.below
            rw [← hwC]
            have HbC := Lib.hid (Below.thn HbB.out hbC)
            have HPC := Lib.hid (HPB.out.later hbC)
            have HiC := Lib.hid (HiA.out.later hbC)
            clear hwC n1 A4 A5 A6 A7 C0 C1 C2 C3 hq' hbC HPB HiA HbB
            go_upto_region 34 with (fail)
            obtain ⟨c0, c1, c2, c3⟩ := Hlies.out _ HbC.out
            have C0 := After.rule c0
            have C1 := After.rule c1
            have C2 := After.rule c2
            have C3 := After.rule c3
            have I0 := After.rule HiC.out.cells.1
            have I1 := After.rule HiC.out.cells.2.1
            have I2 := After.rule HiC.out.cells.2.2
            have hq' := After.ne wC
            clear c0 c1 c2 c3
            refine wp_region_head 16 (by kernel_rfl) (by kernel_rfl) (by kernel_rfl) ?_
            repeat (refine Lq_step (fun K hK => ?_); go_simp; (refine hK _ ?_; clear hK K))
            refine Lq_nil ?_
            intro wD hbD
            have HbD := Lib.hid (Below.thn HbC.out hbD)
            have HPD := Lib.hid (HPC.out.later hbD)
            obtain ⟨hM1, hM2⟩ := cutL_ok (aw := aw) (ah := ah) HBbK.out.u.u32 hfitB
            have hsD := HbD.out.size
            have hmu : aw * ah ≤ 65536 := by
              have h1 : aw * ah ≤ 256 * ah := Nat.mul_le_mul_right ah (by omega)
              have h2 : 256 * ah ≤ 256 * 256 := Nat.mul_le_mul_left 256 (by omega)
              omega
            have hbl := blit_any B a b g px py aw ah (some ⟨g9, 0, none⟩) (aw * ah) (cutL a px py aw ah L1) q Lk wD (HBK.out.later HbD.out) hBgK HPD.out.row hM2.u32 (by omega) (by omega) (fun ad e => by cases e; simp only; omega) Hfq.out
            rw [hM1] at hbl
            have hqx : q.x = (px : Int) := by rw [Hq.out]
            have hqy : q.y = (py : Int) := by rw [Hq.out]
            rw [← hqx, ← hqy] at hbl
            have Hbl := Lib.hid hbl
            have Hqx := Lib.hid (And.intro hqx hqy)
            have Hnew := Lib.hid (show ∀ L' : List Int, BlitOf a b q.x q.y aw ah q (cutL a px py aw ah L1) Lk L' → ∀ X Y : Nat, X < a → Y < b → L'[Y * a + X]? = if pix (l.take (k + 1)) X Y = true then L1[Y * a + X]? else L[Y * a + X]? from fun L' hL' X Y hX hY => by
              have h := hL' X Y hX hY
              have hpb : pictB aw ah (cutL a px py aw ah L1).length = true := by
                rw [hM1, pictB, sizedB_iff.2 ⟨⟨by omega, by omega⟩, ⟨by omega, by omega⟩⟩]
                simp
              rw [hpb, Hqx.out.1, Hqx.out.2, shift_to (by omega) (by omega), ← Hq.out, Bool.true_and, Bool.and_self] at h
              rw [h, Hqt.out, pix_append]
              have h1 : pix [q] X Y = hasR q X Y := by simp [pix]
              rw [h1]
              cases hh : hasR q X Y
              · rw [if_neg (by simp), Bool.or_false]
                exact Hinv.out X Y hX hY
              · rw [if_pos rfl, Bool.or_true, if_pos rfl]
                have hbx := (has_iff.1 hh).2
                rw [Hq.out] at hbx
                simp only at hbx
                have e1 : ((Y : Int) - (py : Int)).toNat = Y - py := by omega
                have e2 : ((X : Int) - (px : Int)).toNat = X - px := by omega
                have e3 : ((aw : Int)).toNat = aw := by omega
                rw [e1, e2, e3, cutL_get HBbK.out.u.u32 hfitB (by omega) (by omega), show (py + (Y - py)) * a + px + (X - px) = Y * a + X by rw [show py + (Y - py) = Y by omega]; omega]
                have hi : Y * a + X < L1.length := by rw [← HBbK.out.size]; exact place_lt hX hY
                rw [HBbK.out.u.get hi, HBbK.out.u.get hi])
            clear C0 C1 C2 C3 I0 I1 I2 hq' hbD hbl hM1 hM2 hqx hqy Hinv
            go_wp2_with fail
            refine Calls.mono Hbl.out ?_
            rintro e wE ⟨rfl, ⟨L', hB', hL'⟩, htE⟩
            have HwE := Lib.hid (show Below W.heap.size W wE from (HwK.out.trans (HbD.out.mono HwK.out.size)).trans (htE.below (B := W.heap.size) (Nat.le_trans HwK.out.size HbD.out.size) (by rintro i rfl; omega)))
            have HBE := Lib.hid hB'
            have HBbE := Lib.hid (htE.stays (HBbK.out.later HbD.out) (show Bb ≠ g by omega) (show gb ≠ g by omega))
            have HrowE := Lib.hid ((HrowK.out.below HbD.out).turns htE (fun q' h e => Hug.out q' h e))
            have HinvE := Lib.hid (Hnew.out L' hL')
            clear hB' hL' htE Hbl Hnew
            go_wp2
            go_roundw
            case rel => exact ⟨k + 1, L', by have := Hlt.out; omega, by go_num, HwE, HBE, HBbE, HrowE, HinvE⟩
            case measure => have := Hlt.out; simp [intOf]; omega
          · obtain rfl : k = l.length := by omega
            have hall : Lk = L1 := by
              refine pix_ext HBK.out.size.symm HBbK.out.size.symm fun X Y hX hY => ?_
              rw [Hinv.out X Y hX hY, List.take_length]
              cases hp : pix l X Y
              · rw [if_neg (by simp)]
                cases hd : decide (L[Y * a + X]? = L1[Y * a + X]?)
                · have := (Hpx2.out X Y).2 ⟨hY, hX, by simpa using hd⟩
                  rw [hp] at this
                  cases this
                · simpa using hd
              · rw [if_pos rfl]
            subst hall
            clear Hinv Hpx2 Hrc HrowK Hug
            go_wp2_with fail
            refine Calls.mono (same_any B a b g Bb gb Lk Lk _ HBK.out HBbK.out) ?_
            rw [eqL_iff.2 rfl]
            rintro e wA ⟨rfl, hbA⟩
            have HbA := Lib.hid (Below.thn HwK.out hbA)
            have HBA := Lib.hid (HBK.out.later hbA)
            have HBbA := Lib.hid (HBbK.out.later hbA)
            clear hbA HBK HBbK
            go_wp2_with fail
            refine Calls.mono (same_any Bb a b gb B g Lk Lk _ HBbA.out HBA.out) ?_
            rw [eqL_iff.2 rfl]
            rintro e wB ⟨rfl, hbB⟩
            have HbB := Lib.hid (Below.thn HbA.out hbB)
            clear hbB
            go_wp2_with fail
            refine Calls.mono (wakes3_any _) ?_
            rintro e wC ⟨rfl, hbC⟩
            go_wp2
            go_ret
            exact ⟨rfl, Below.thn (Below.thn Hbw.out HbB.out) hbC⟩

end Go.Proofs.Ytpddkhhdleknnaa
