/- The walk of the statement PixbufBlits. -/
import Derived.Test.YthmnmicjnpafjaaPixO
import Derived.Test.YthmnmicjnpafjaaPixM
import Derived.Test.YthmnmicjnpafjaaPixLift
namespace Go.Proofs.Ythmnmicjnpafjaa
open Go.RowKit

theorem RowAt.blk {w : World} {p : Option Addr} {l : List Int} (h : RowAt encU 1 w p l) : ∀ a, p = some a → a.block < w.heap.size := by
  rintro a rfl
  rcases h with ⟨h, -⟩ | ⟨b, off, h, hb, -⟩
  · cases h
  · cases h; exact hb

theorem blit_none {wd ht : Nat} {x y mwd mht : Int} {clip : Rc} {M L L' : List Int} (h : BlitOf wd ht x y mwd mht clip M L L') (hp : pictB mwd mht M.length = false) (h1 : wd * ht = L.length) (h2 : wd * ht = L'.length) : L' = L :=
  pix_ext h2.symm h1.symm fun X Y hX hY => by rw [h X Y hX hY, hp]; simp

theorem blit_twice {wd ht : Nat} {x y mwd mht : Int} {clip : Rc} {M L L' L'' : List Int} (h : BlitOf wd ht x y mwd mht clip M L L') (h' : BlitOf wd ht x y mwd mht clip M L' L'') (h2 : wd * ht = L'.length) (h3 : wd * ht = L''.length) : L'' = L' :=
  pix_ext h3.symm h2.symm fun X Y hX hY => by
    rw [h' X Y hX hY]
    split
    · rename_i hc
      rw [h X Y hX hY, if_pos hc]
    · rfl

set_option maxRecDepth 100000 in
set_option maxHeartbeats 8000000 in
theorem blits_any (wd ht : Int) (p : Option Addr) (c : Nat) (S : List Int) (owd oht : Int) (op : Option Addr) (oc : Nat) (O : List Int) (x y : Int) (clip : Rc) (w : World) (hI : Img w wd ht p c S) (hO : Img w owd oht op oc O) (hx : -9223372036854775808 ≤ x ∧ x ≤ 9223372036854775807) (_hy : -9223372036854775808 ≤ y ∧ y ≤ 9223372036854775807) (hc : Fit clip) :
    Makes Try.prog 5 #[IV wd ht (.slice p S.length c), IV owd oht (.slice op O.length oc), .int .i64 x, .int .i64 y, RV clip] w (.bool true) := by
  unfold Makes
  go_enter Try.func5, Try.ntmps5
  go_wp2_with fail
  have i0 : Im3 (((w.alloc (.cells #[.int .i64 wd, .int .i64 ht, .slice p S.length c] 24)).alloc (.cells #[.int .i64 owd, .int .i64 oht, .slice op O.length oc] 24)).alloc (RO clip)) w.heap.size wd ht (.slice p S.length c) := (Im3.new rfl).later (Below.al2 _ _ _)
  have i1 : Im3 (((w.alloc (.cells #[.int .i64 wd, .int .i64 ht, .slice p S.length c] 24)).alloc (.cells #[.int .i64 owd, .int .i64 oht, .slice op O.length oc] 24)).alloc (RO clip)) (w.heap.size + 1) owd oht (.slice op O.length oc) := (Im3.new (by simp)).later (Below.al1 _ _)
  have l2 : Lies (((w.alloc (.cells #[.int .i64 wd, .int .i64 ht, .slice p S.length c] 24)).alloc (.cells #[.int .i64 owd, .int .i64 oht, .slice op O.length oc] 24)).alloc (RO clip)) (w.heap.size + 1 + 1) clip := Lies.new (by simp)
  have hbw := Below.al3 w (.cells #[.int .i64 wd, .int .i64 ht, .slice p S.length c] 24) (.cells #[.int .i64 owd, .int .i64 oht, .slice op O.length oc] 24) (RO clip)
  generalize (((w.alloc (.cells #[.int .i64 wd, .int .i64 ht, .slice p S.length c] 24)).alloc (.cells #[.int .i64 owd, .int .i64 oht, .slice op O.length oc] 24)).alloc (RO clip)) = W at *
  have HI0 := Lib.hid i0
  have HI1 := Lib.hid i1
  have HL2 := Lib.hid l2
  have Hbw := Lib.hid hbw
  have HSr := Lib.hid (hI.row.below hbw)
  have HSu := Lib.hid hI.u
  have HSc := Lib.hid (And.intro hI.len hI.cap)
  have HOr := Lib.hid (hO.row.below hbw)
  have HOu := Lib.hid hO.u
  have HOc := Lib.hid (And.intro hO.len hO.cap)
  clear i0 i1 l2 hbw hI hO
  refine Calls.mono (great_any wd ht p S.length c _) ?_
  rintro e w1 ⟨rfl, hb1⟩
  have Hw1 := Lib.hid hb1
  clear hb1
  obtain ⟨big, hbig⟩ : ∃ big, decide (1000 < S.length) = big := ⟨_, rfl⟩
  rw [hbig]
  clear hbig
  cases big
  case true =>
    go_wp2_with fail
    refine Calls.mono (wakes3_any _) ?_
    rintro e w2 ⟨rfl, hb2⟩
    go_wp2
    go_ret
    exact ⟨rfl, Below.thn (Below.thn Hbw.out Hw1.out) hb2⟩
  case false =>
  obtain ⟨m0, m1, m2⟩ := (HI1.out.later Hw1.out).cells
  go_wp2_with fail
  refine Calls.mono (great_any owd oht op O.length oc _) ?_
  rintro e w2 ⟨rfl, hb2⟩
  have Hw2 := Lib.hid (Below.thn Hw1.out hb2)
  clear hb2 m0 m1 m2 Hw1
  obtain ⟨big, hbig⟩ : ∃ big, decide (1000 < O.length) = big := ⟨_, rfl⟩
  rw [hbig]
  clear hbig
  cases big
  case true =>
    go_wp2_with fail
    refine Calls.mono (wakes3_any _) ?_
    rintro e w3 ⟨rfl, hb3⟩
    go_wp2
    go_ret
    exact ⟨rfl, Below.thn (Below.thn Hbw.out Hw2.out) hb3⟩
  case false =>
  obtain ⟨m0, m1, m2⟩ := (HI0.out.later Hw2.out).cells
  go_wp2_with fail
  cases hp : pictB wd ht S.length
  case false =>
    refine Calls.mono (from_no wd ht p S.length c _ hp) ?_
    rintro e w3 ⟨rfl, hb3⟩
    have Hw3 := Lib.hid (Below.thn Hw2.out hb3)
    clear hp m0 m1 m2 hb3 Hw2
    obtain ⟨m0, m1, m2⟩ := (HI1.out.later Hw3.out).cells
    go_wp2_with fail
    cases hq : pictB owd oht O.length
    · refine Calls.mono (from_no owd oht op O.length oc _ hq) ?_
      rintro e w4 ⟨rfl, hb4⟩
      have Hw4 := Lib.hid (Below.thn Hw3.out hb4)
      clear hb4 hq
      go_wp2_with fail
      refine Calls.mono (wakes3_any _) ?_
      rintro e w5 ⟨rfl, hb5⟩
      go_wp2
      go_ret
      exact ⟨rfl, Below.thn (Below.thn Hbw.out Hw4.out) hb5⟩
    · obtain ⟨a, b, fb, fo, rfl, rfl, ha, hb, hab, rfl⟩ := pict_open hq HOr.out
      refine Calls.mono (from_yes a b fb fo O.length oc O _ (HOr.out.below Hw3.out) rfl HOc.out.1 HOc.out.2 HOu.out ha hb hab) ?_
      rintro e w4 ⟨B, g, rfl, -, -, -, -, hb4⟩
      have Hw4 := Lib.hid (Below.thn Hw3.out hb4)
      clear hb4 hq
      go_wp2_with fail
      refine Calls.mono (wakes3_any _) ?_
      rintro e w5 ⟨rfl, hb5⟩
      go_wp2
      go_ret
      exact ⟨rfl, Below.thn (Below.thn Hbw.out Hw4.out) hb5⟩
  case true =>
  obtain ⟨a, b, fb, fo, rfl, rfl, ha, hb, hab, rfl⟩ := pict_open hp HSr.out
  refine Calls.mono (from_yes a b fb fo S.length c S _ (HSr.out.below Hw2.out) rfl HSc.out.1 HSc.out.2 HSu.out ha hb hab) ?_
  rintro e w3 ⟨B, g, rfl, hB, hB1, hg1, hBg, hb3⟩
  have hs2 := Hw2.out.size
  have Hw3 := Lib.hid (Below.thn Hw2.out hb3)
  have HB := Lib.hid hB
  clear hp m0 m1 m2 hb3 hB HSr HSu HSc HI0 Hw2
  generalize cutL a 0 0 a b S = L at *
  obtain ⟨m0, m1, m2⟩ := (HI1.out.later Hw3.out).cells
  go_wp2_with fail
  cases hq : pictB owd oht O.length
  case false =>
    refine Calls.mono (from_no owd oht op O.length oc _ hq) ?_
    rintro e w4 ⟨rfl, hb4⟩
    have Hw4 := Lib.hid (Below.thn Hw3.out hb4)
    have HB4 := Lib.hid (HB.out.later hb4)
    have hlt3 := HB.out.lt
    have hglt3 := HB.out.pix.lt
    have hs34 := hb4.size
    clear hb4 HB m0 m1 m2
    go_wp2_with fail
    refine Calls.mono (clone_any B a b g L _ HB4.out) ?_
    rintro e w5 ⟨Bb, gb, rfl, hBb, hBb1, hgb1, hBgb, hb5⟩
    have Hw5 := Lib.hid (Below.thn Hw4.out hb5)
    have HB5 := Lib.hid (HB4.out.later hb5)
    have HBb := Lib.hid hBb
    have hs4 := Hw4.out.size
    clear hb5 hBb HB4
    obtain ⟨m0, m1, m2⟩ := (HI1.out.later Hw5.out).cells
    obtain ⟨c0, c1, c2, c3⟩ := HL2.out.later Hw5.out
    go_wp2_with fail
    refine Calls.mono (blit_any Bb a b gb x y owd oht op oc O clip L _ HBb.out hBgb (HOr.out.below Hw5.out) HOu.out HOc.out.1 HOc.out.2 (fun q hq' => by have := HOr.out.blk q hq'; omega) hc) ?_
    rintro e w6 ⟨rfl, ⟨L', hB', hL'⟩, ht6⟩
    have hLL := blit_none hL' hq HB5.out.size hB'.size
    subst hLL
    have Hw6 := Lib.hid (Hw5.out.trans (ht6.below (B := W.heap.size) Hw5.out.size (by rintro i rfl; omega)))
    have HB6 := Lib.hid (ht6.stays HB5.out (show B ≠ gb by omega) (show g ≠ gb by omega))
    have HBb6 := Lib.hid hB'
    clear hB' hL' ht6 m0 m1 m2 c0 c1 c2 c3 hq
    go_wp2_with fail
    refine Calls.mono (same_any B a b g Bb gb L' L' _ HB6.out HBb6.out) ?_
    rw [eqL_iff.2 rfl]
    rintro e w7 ⟨rfl, hb7⟩
    have Hw7 := Lib.hid (Below.thn Hw6.out hb7)
    clear hb7
    go_wp2_with fail
    refine Calls.mono (wakes3_any _) ?_
    rintro e w8 ⟨rfl, hb8⟩
    go_wp2
    go_ret
    exact ⟨rfl, Below.thn (Below.thn Hbw.out Hw7.out) hb8⟩
  case true =>
  obtain ⟨mw, mh, ob, oo, rfl, rfl, hmw, hmh, hmn, rfl⟩ := pict_open hq HOr.out
  refine Calls.mono (from_yes mw mh ob oo O.length oc O _ (HOr.out.below Hw3.out) rfl HOc.out.1 HOc.out.2 HOu.out hmw hmh hmn) ?_
  rintro e w4 ⟨Bp, gp, rfl, hBp, hBp1, hgp1, -, hb4⟩
  have Hw4 := Lib.hid (Below.thn Hw3.out hb4)
  have HB4 := Lib.hid (HB.out.later hb4)
  have HBp4 := Lib.hid hBp
  have hlt4 := HB4.out.lt
  have hglt4 := HB4.out.pix.lt
  have hplt4 := HBp4.out.lt
  have hgplt4 := HBp4.out.pix.lt
  clear hb4 HB m0 m1 m2 hBp
  go_wp2_with fail
  refine Calls.mono (clone_any B a b g L _ HB4.out) ?_
  rintro e w5 ⟨Bb, gb, rfl, hBb, hBb1, hgb1, hBgb, hb5⟩
  have Hw5 := Lib.hid (Below.thn Hw4.out hb5)
  have HB5 := Lib.hid (HB4.out.later hb5)
  have HBp5 := Lib.hid (HBp4.out.later hb5)
  have HBb := Lib.hid hBb
  have hs4 := Hw4.out.size
  clear hb5 hBb HB4 HBp4
  obtain ⟨m0, m1, m2⟩ := (HI1.out.later Hw5.out).cells
  obtain ⟨c0, c1, c2, c3⟩ := HL2.out.later Hw5.out
  go_wp2_with fail
  refine Calls.mono (blit_any Bb a b gb x y mw mh _ oc O clip L _ HBb.out hBgb (HOr.out.below Hw5.out) HOu.out HOc.out.1 HOc.out.2 (fun q hq' => by have := HOr.out.blk q hq'; omega) hc) ?_
  rintro e w6 ⟨rfl, ⟨L', hB', hL'⟩, ht6⟩
  have Hw6 := Lib.hid (Hw5.out.trans (ht6.below (B := W.heap.size) Hw5.out.size (by rintro i rfl; omega)))
  have HB6 := Lib.hid (ht6.stays HB5.out (show B ≠ gb by omega) (show g ≠ gb by omega))
  have HBp6 := Lib.hid (ht6.stays HBp5.out (show Bp ≠ gb by omega) (show gp ≠ gb by omega))
  have HBb6 := Lib.hid hB'
  have HL' := Lib.hid hL'
  have Hq := Lib.hid hq
  clear hB' hL' ht6 m0 m1 m2 c0 c1 c2 c3 hq HB5 HBp5 HBb
  go_wp2_with fail
  obtain ⟨n, hn⟩ : ∃ n, a * b = n := ⟨_, rfl⟩
  have hnm : IntKind.i64.wrap ((a : Int) * (b : Int)) = (n : Int) := by
    rw [← hn, Int.natCast_mul]
    refine IntWalk.i64_in _ ?_
    have h1 : a * b ≤ 256 * b := Nat.mul_le_mul_right b ha.2
    have h2 : 256 * b ≤ 256 * 256 := Nat.mul_le_mul_left 256 hb.2
    rw [← Int.natCast_mul]
    omega
  have hnb : n ≤ 65536 := by
    rw [← hn]
    have h1 : a * b ≤ 256 * b := Nat.mul_le_mul_right b ha.2
    have h2 : 256 * b ≤ 256 * 256 := Nat.mul_le_mul_left 256 hb.2
    omega
  go_loopw [16] (fun i wr => ∃ k : Nat, k ≤ n ∧ i = .int .i64 k ∧ Hid (Below w6.heap.size w6 wr)) (fun i _ => n - (intOf i).toNat)
  case atStart => exact ⟨0, by omega, rfl, Lib.hid (Below.refl _ _)⟩
  case round =>
    obtain ⟨k, hk, rfl, Hb⟩ := hrel
    go_wp2_with fail
    refine Calls.mono (bufW_any B a b g L _ (HB6.out.later Hb.out)) ?_
    rintro e w7 ⟨rfl, hb7⟩
    have Hb7 := Lib.hid (Below.thn Hb.out hb7)
    clear hb7
    go_wp2_with fail
    refine Calls.mono (bufH_any B a b g L _ (HB6.out.later Hb7.out)) ?_
    rintro e w8 ⟨rfl, hb8⟩
    have Hb8 := Lib.hid (Below.thn Hb7.out hb8)
    clear hb8
    by_cases hlt : k < n
    · have Hlt := Lib.hid hlt
      obtain ⟨X, Y, hX, hY, hXY⟩ : ∃ X Y : Nat, X < a ∧ Y < b ∧ Y * a + X = k := by
        refine ⟨k % a, k / a, Nat.mod_lt _ (by omega), ?_, ?_⟩
        · rw [Nat.div_lt_iff_lt_mul (by omega), Nat.mul_comm, hn]; exact hlt
        · rw [Nat.mul_comm]; exact Nat.div_add_mod k a
      have hu1 : (k : Int) % (a : Int) = (X : Int) := by
        rw [← hXY]
        have : (Y * a + X) % a = X := by rw [Nat.mul_comm, Nat.mul_add_mod, Nat.mod_eq_of_lt hX]
        omega
      have hu2 : (k : Int) / (a : Int) = (Y : Int) := by
        rw [← hXY]
        have : (Y * a + X) / a = Y := by rw [Nat.mul_comm, Nat.mul_add_div (by omega), Nat.div_eq_of_lt hX, Nat.add_zero]
        omega
      go_upto_region 14 with (fail)
      have hq' := After.ne w8
      refine wp_region_in ⟨w8, Below.refl _ _⟩ (by kernel_rfl) (by kernel_rfl) ?_
      repeat (go_big_quiet_step ((go_at_call 11; exact Makes.after (bufW_any B a b g L _ (HB6.out.later (Below.thn Hb8.out (After.below _)))))))
      refine wpQuiet_nil ?_
      rintro _ ⟨n1, rfl⟩
      obtain ⟨w9, hw9⟩ : ∃ w9, w9 = n1.world := ⟨_, rfl⟩
      have Hb9 := Lib.hid (show Below w6.heap.size w6 w9 by rw [hw9]; exact Below.thn Hb8.out n1.below)
      rw [← hw9]
      clear hw9 n1 hq' Hb8 hu2
      have hiL : Y * a + X < L.length := by rw [← HB6.out.size]; exact place_lt hX hY
      have hiL' : Y * a + X < L'.length := by rw [← HBb6.out.size]; exact place_lt hX hY
      obtain ⟨v0, hv0⟩ : ∃ v, L[Y * a + X]'hiL = v := ⟨_, rfl⟩
      rw [hu1]
      clear hu1
      go_wp2_with fail
      refine Calls.mono (at_in B a b g X Y L _ (HB6.out.later Hb9.out) hX hY hiL) ?_
      rw [hv0]
      rintro e wA ⟨rfl, hbA⟩
      have HbA := Lib.hid (Below.thn Hb9.out hbA)
      clear hbA Hb9
      obtain ⟨c0, c1, c2, c3⟩ := HL2.out.later (Hw6.out.trans (HbA.out.mono Hw6.out.size))
      go_wp2_with fail
      cases hc1 : hasR clip (X : Int) (Y : Int)
      · refine Calls.mono (has_eq clip (X : Int) (Y : Int) _ hc1 hc) ?_
        rintro e wT ⟨rfl, hbT⟩
        have HbT := Lib.hid (Below.thn HbA.out hbT)
        have Hc1 := Lib.hid hc1
        clear hbT HbA c0 c1 c2 c3 hc1
        go_wp2_with fail
        have hfin : L'[Y * a + X]'hiL' = v0 := by
          have h := HL'.out X Y hX hY
          rw [List.getElem?_eq_getElem hiL'] at h
          rw [if_neg (by rw [Hc1.out]; simp), List.getElem?_eq_getElem hiL] at h
          exact (Option.some.inj h).trans hv0
        refine Calls.mono (at_in Bb a b gb X Y L' _ (HBb6.out.later HbT.out) hX hY hiL') ?_
        rw [hfin]
        rintro e wU ⟨rfl, hbU⟩
        have HbU := Lib.hid (Below.thn HbT.out hbU)
        clear hbU hfin
        go_wp2_with fail
        go_roundw
        case rel => exact ⟨k + 1, by have := Hlt.out; omega, by go_num, HbU⟩
        case measure => have := Hlt.out; simp [intOf]; omega
      · refine Calls.mono (has_eq clip (X : Int) (Y : Int) _ hc1 hc) ?_
        rintro e wB ⟨rfl, hbB⟩
        have HbB := Lib.hid (Below.thn HbA.out hbB)
        have Hc1 := Lib.hid hc1
        clear hbB HbA c0 c1 c2 c3 hc1
        go_wp2_with fail
        refine Calls.mono (bufW_any Bp mw mh gp _ _ (HBp6.out.later HbB.out)) ?_
        rintro e wC ⟨rfl, hbC⟩
        have HbC := Lib.hid (Below.thn HbB.out hbC)
        clear hbC HbB
        go_wp2_with fail
        refine Calls.mono (bufH_any Bp mw mh gp _ _ (HBp6.out.later HbC.out)) ?_
        rintro e wD ⟨rfl, hbD⟩
        have HbD := Lib.hid (Below.thn HbC.out hbD)
        clear hbD HbC
        obtain ⟨R1, hR1⟩ : ∃ R, shiftR ⟨0, 0, (mw : Int), (mh : Int)⟩ x y = R := ⟨_, rfl⟩
        have hfm : Fit ⟨0, 0, (mw : Int), (mh : Int)⟩ := ⟨show (0 : Int) ≤ 9223372036854775807 by decide, show (0 : Int) ≤ 9223372036854775807 by decide⟩
        have hfR : Fit R1 := hR1 ▸ shift_fit' _ _ _
        go_wp2_with fail
        refine Calls.mono (shift_eq ⟨0, 0, (mw : Int), (mh : Int)⟩ x y _ hR1 hfm) ?_
        rintro e wE ⟨rfl, hbE⟩
        have HbE := Lib.hid (Below.thn HbD.out hbE)
        have HR1 := Lib.hid hR1
        clear hbE HbD hR1
        go_wp2_with fail
        cases hc2 : hasR R1 (X : Int) (Y : Int)
        · refine Calls.mono (has_eq R1 (X : Int) (Y : Int) _ hc2 hfR) ?_
          rintro e wT ⟨rfl, hbT⟩
          have HbT := Lib.hid (Below.thn HbE.out hbT)
          have Hc2 := Lib.hid hc2
          clear hbT HbE hc2
          go_wp2_with fail
          have hfin : L'[Y * a + X]'hiL' = v0 := by
            have h := HL'.out X Y hX hY
            rw [List.getElem?_eq_getElem hiL'] at h
            rw [if_neg (by rw [HR1.out, Hc2.out]; simp), List.getElem?_eq_getElem hiL] at h
            exact (Option.some.inj h).trans hv0
          refine Calls.mono (at_in Bb a b gb X Y L' _ (HBb6.out.later HbT.out) hX hY hiL') ?_
          rw [hfin]
          rintro e wU ⟨rfl, hbU⟩
          have HbU := Lib.hid (Below.thn HbT.out hbU)
          clear hbU hfin
          go_wp2_with fail
          go_roundw
          case rel => exact ⟨k + 1, by have := Hlt.out; omega, by go_num, HbU⟩
          case measure => have := Hlt.out; simp [intOf]; omega
        · refine Calls.mono (has_eq R1 (X : Int) (Y : Int) _ hc2 hfR) ?_
          rintro e wF ⟨rfl, hbF⟩
          have HbF := Lib.hid (Below.thn HbE.out hbF)
          obtain ⟨xx, yy, hxx, hyy, hxl, hyl, hsx, hsy⟩ : ∃ xx yy : Nat, (X : Int) - x = (xx : Int) ∧ (Y : Int) - y = (yy : Int) ∧ xx < mw ∧ yy < mh ∧ IntKind.i64.wrap ((X : Int) - x) = (xx : Int) ∧ IntKind.i64.wrap ((Y : Int) - y) = (yy : Int) := by
            obtain ⟨e2, e3, e4⟩ := has_iff.1 hc2
            rcases shiftR_cases ⟨0, 0, (mw : Int), (mh : Int)⟩ x y with ⟨f1, -, f2, f3⟩ | f1
            · rw [HR1.out] at f1
              rw [f1] at e3 e4
              simp only at e3 e4 f2 f3
              refine ⟨((X : Int) - x).toNat, ((Y : Int) - y).toNat, by omega, by omega, by omega, by omega, ?_, ?_⟩
              · rw [IntWalk.i64_in _ (by omega)]; omega
              · rw [IntWalk.i64_in _ (by omega)]; omega
            · rw [HR1.out] at f1
              rw [f1] at e2
              exact absurd e2 (by decide)
          have Hc2 := Lib.hid hc2
          have hpu : ∀ k', k' < mh → (0 + k') * mw + 0 + mw ≤ O.length := fit_of (fw := mw) (px := 0) (py := 0) (aw := mw) (ah := mh) (by omega) (show 0 + mh ≤ mh by omega) hmn
          have hiP : yy * mw + xx < (cutL mw 0 0 mw mh O).length := by rw [(cutL_ok HOu.out hpu).1]; exact place_lt hxl hyl
          obtain ⟨v1, hv1⟩ : ∃ v, (cutL mw 0 0 mw mh O)[yy * mw + xx]'hiP = v := ⟨_, rfl⟩
          have Hv1 := Lib.hid (show O[yy * mw + xx]?.map cut24 = some v1 by
            have h := cutL_get HOu.out hpu hxl hyl
            rw [List.getElem?_eq_getElem hiP, hv1, Nat.zero_add, Nat.add_zero] at h
            exact h.symm)
          have Hxx := Lib.hid (And.intro hxx hyy)
          clear hbF HbE hc2
          go_wp2_with fail
          refine Calls.mono (at_in Bp mw mh gp xx yy (cutL mw 0 0 mw mh O) _ (HBp6.out.later HbF.out) hxl hyl hiP) ?_
          rw [hv1]
          rintro e wT ⟨rfl, hbT⟩
          have HbT := Lib.hid (Below.thn HbF.out hbT)
          clear hbT HbF hxx hyy hsx hsy
          go_wp2_with fail
          have hfin : L'[Y * a + X]'hiL' = v1 := by
            have h := HL'.out X Y hX hY
            rw [List.getElem?_eq_getElem hiL'] at h
            rw [if_pos (by rw [Hq.out, Hc1.out, HR1.out, Hc2.out]; rfl), Hxx.out.1, Hxx.out.2, show ((yy : Int)).toNat = yy by omega, show ((xx : Int)).toNat = xx by omega, show ((mw : Int)).toNat = mw by omega, Hv1.out] at h
            exact Option.some.inj h
          refine Calls.mono (at_in Bb a b gb X Y L' _ (HBb6.out.later HbT.out) hX hY hiL') ?_
          rw [hfin]
          rintro e wU ⟨rfl, hbU⟩
          have HbU := Lib.hid (Below.thn HbT.out hbU)
          clear hbU hfin
          go_wp2_with fail
          go_roundw
          case rel => exact ⟨k + 1, by have := Hlt.out; omega, by go_num, HbU⟩
          case measure => have := Hlt.out; simp [intOf]; omega
    · have Hw8 := Lib.hid (Hw6.out.trans (Hb8.out.mono Hw6.out.size))
      have HBb8 := Lib.hid (HBb6.out.later Hb8.out)
      have hbl8 := HBb8.out.lt
      have hgbl8 := HBb8.out.pix.lt
      go_wp2_with fail
      refine Calls.mono (clone_any Bb a b gb L' _ HBb8.out) ?_
      rintro e w9 ⟨Bc, gc, rfl, hBc, hBc1, hgc1, hBgc, hb9⟩
      have Hw9 := Lib.hid (Below.thn Hw8.out hb9)
      have HBb9 := Lib.hid (HBb8.out.later hb9)
      have HBc9 := Lib.hid hBc
      have hs8 := Hw8.out.size
      clear hb9 hBc HBb8 Hb8
      obtain ⟨m0, m1, m2⟩ := (HI1.out.later Hw9.out).cells
      obtain ⟨c0, c1, c2, c3⟩ := HL2.out.later Hw9.out
      go_wp2_with fail
      refine Calls.mono (blit_any Bc a b gc x y mw mh _ oc O clip L' _ HBc9.out hBgc (HOr.out.below Hw9.out) HOu.out HOc.out.1 HOc.out.2 (fun q hq' => by have := HOr.out.blk q hq'; omega) hc) ?_
      rintro e wA ⟨rfl, ⟨L2, hB2, hL2⟩, htA⟩
      have h22 := blit_twice HL'.out hL2 HBb9.out.size hB2.size
      subst h22
      have HwA := Lib.hid (Hw9.out.trans (htA.below (B := W.heap.size) Hw9.out.size (by rintro i rfl; omega)))
      have HBbA := Lib.hid (htA.stays HBb9.out (show Bb ≠ gc by omega) (show gb ≠ gc by omega))
      have HBcA := Lib.hid hB2
      clear hB2 hL2 htA m0 m1 m2 c0 c1 c2 c3
      go_wp2_with fail
      refine Calls.mono (same_any Bc a b gc Bb gb L2 L2 _ HBcA.out HBbA.out) ?_
      rw [eqL_iff.2 rfl]
      rintro e wB ⟨rfl, hbB⟩
      have HwB := Lib.hid (Below.thn HwA.out hbB)
      clear hbB
      go_wp2_with fail
      refine Calls.mono (wakes3_any _) ?_
      rintro e wC ⟨rfl, hbC⟩
      go_wp2
      go_ret
      exact ⟨rfl, Below.thn (Below.thn Hbw.out HwB.out) hbC⟩

end Go.Proofs.Ythmnmicjnpafjaa
