/- The walk of the statement PixbufTwo. -/
import Derived.Test.YtpddkhhdleknnaaZ47
import Derived.Test.YtpddkhhdleknnaaZ42
import Derived.Test.YtpddkhhdleknnaaZ43
import Derived.Test.YtpddkhhdleknnaaZ44
import Derived.Test.YtpddkhhdleknnaaZ46
import Derived.Test.YtpddkhhdleknnaaZ36
import Derived.Deep.RegionWith
import Derived.Deep.RegionHeld3
import Derived.Deep.DeepCutAuto
import Derived.Handy
namespace Go.Proofs.Ytpddkhhdleknnaa
open Go.RowKit

set_option maxRecDepth 100000 in
set_option maxHeartbeats 16000000 in
theorem ptwo_any (wd ht : Int) (p : Option Addr) (cp : Nat) (S : List Int) (owd oht : Int) (op : Option Addr) (oc : Nat) (O : List Int) (nw nh : Int) (w : World) (hI : Img w wd ht p cp S) (hO : Img w owd oht op oc O) :
    Makes Try.prog 6 #[IV wd ht (.slice p S.length cp), IV owd oht (.slice op O.length oc), .int .i64 nw, .int .i64 nh] w (.bool true) := by
  unfold Makes
  go_enter Try.func6, Try.ntmps6
  go_wp2_with fail
  have i0 : Im3 ((w.alloc (.cells #[.int .i64 wd, .int .i64 ht, .slice p S.length cp] 39)).alloc (.cells #[.int .i64 owd, .int .i64 oht, .slice op O.length oc] 39)) w.heap.size wd ht (.slice p S.length cp) := (Im3.new rfl).later (Below.al1 _ _)
  have i1 : Im3 ((w.alloc (.cells #[.int .i64 wd, .int .i64 ht, .slice p S.length cp] 39)).alloc (.cells #[.int .i64 owd, .int .i64 oht, .slice op O.length oc] 39)) (w.heap.size + 1) owd oht (.slice op O.length oc) := Im3.new (by simp)
  have hbw := Below.al2 w (.cells #[.int .i64 wd, .int .i64 ht, .slice p S.length cp] 39) (.cells #[.int .i64 owd, .int .i64 oht, .slice op O.length oc] 39)
  generalize ((w.alloc (.cells #[.int .i64 wd, .int .i64 ht, .slice p S.length cp] 39)).alloc (.cells #[.int .i64 owd, .int .i64 oht, .slice op O.length oc] 39)) = W at *
  have HI0 := Lib.hid i0
  have HI1 := Lib.hid i1
  have Hbw := Lib.hid hbw
  have HSr := Lib.hid (hI.row.below hbw)
  have HSu := Lib.hid hI.u
  have HSc := Lib.hid (And.intro hI.len hI.cap)
  have HOr := Lib.hid (hO.row.below hbw)
  have HOu := Lib.hid hO.u
  have HOc := Lib.hid (And.intro hO.len hO.cap)
  clear i0 i1 hbw hI hO
  refine Calls.mono (great_any wd ht p S.length cp _) ?_
  rintro e w1 ⟨rfl, hb1⟩
  have Hw1 := Lib.hid hb1
  clear hb1
  obtain ⟨big, hbig⟩ : ∃ big, decide (1000 < S.length) = big := ⟨_, rfl⟩
  rw [hbig]
  have Hbig1 := Lib.hid hbig
  clear hbig
  cases big
  case true =>
    go_wp2_with fail
    refine Calls.mono (wakes3_any _) ?_
    rintro e w2 ⟨rfl, hb2⟩
    go_wp2
    go_ret
    exact ⟨rfl, Below.thn (Below.thn Hbw.out Hw1.out) hb2⟩
  case false =>
  obtain ⟨m0, m1, m2⟩ := (HI1.out.later Hw1.out).cells
  go_wp2_with fail
  refine Calls.mono (great_any owd oht op O.length oc _) ?_
  rintro e w2 ⟨rfl, hb2⟩
  have Hw2 := Lib.hid (Below.thn Hw1.out hb2)
  clear hb2 m0 m1 m2 Hw1
  obtain ⟨big, hbig⟩ : ∃ big, decide (1000 < O.length) = big := ⟨_, rfl⟩
  rw [hbig]
  have Hbig2 := Lib.hid hbig
  clear hbig
  cases big
  case true =>
    go_wp2_with fail
    refine Calls.mono (wakes3_any _) ?_
    rintro e w3 ⟨rfl, hb3⟩
    go_wp2
    go_ret
    exact ⟨rfl, Below.thn (Below.thn Hbw.out Hw2.out) hb3⟩
  case false =>
  have hSl : S.length ≤ 1000 := by have := Hbig1.out; simpa using this
  have hOl : O.length ≤ 1000 := by have := Hbig2.out; simpa using this
  go_wp2_with fail
  cases hs : sizedB nw nh
  case' false =>
    refine Calls.mono (new_no nw nh _ hs) ?_
    rintro e w3 ⟨rfl, hb3⟩
    have Hw3 := Lib.hid (Below.thn Hw2.out hb3)
    clear hb3
    go_wp2_with fail
    refine Calls.mono (refNew_no nw nh _ hs) ?_
    rintro e w4 ⟨rfl, hb4⟩
    have hal := Below.al1 w4 (.cells #[.int .i64 0, .int .i64 0, .slice none 0 0] 39)
    have Hw4 := Lib.hid (Below.thn (Below.thn Hw3.out hb4) hal)
    clear hb4 hs hal
    go_upto_region 5 with (fail)
    generalize (w4.alloc (.cells #[.int .i64 0, .int .i64 0, .slice none 0 0] 39)) = w5 at *
    have hq' := After.ne w5
    refine wp_region_in ⟨w5, Below.refl _ _⟩ (by kernel_rfl) (by kernel_rfl) ?_
    repeat (go_big_quiet_step (fail))
    refine wpQuiet_nil ?_
    rintro _ ⟨n1, rfl⟩
    obtain ⟨w6, hw6⟩ : ∃ w6, w6 = n1.world := ⟨_, rfl⟩
    have Hw6 := Lib.hid (show Below W.heap.size W w6 by rw [hw6]; exact Below.thn Hw4.out n1.below)
    rw [← hw6]
    clear hw6 n1 hq' Hw3 Hw4
  case' true =>
    obtain ⟨⟨s1, s2⟩, s3, s4⟩ := sizedB_iff.1 hs
    obtain ⟨na, rfl⟩ := Int.eq_ofNat_of_zero_le (show 0 ≤ nw by omega)
    obtain ⟨nb, rfl⟩ := Int.eq_ofNat_of_zero_le (show 0 ≤ nh by omega)
    refine Calls.mono (new_yes na nb _ (by omega) (by omega)) ?_
    rintro e w3 ⟨Bn, gn, rfl, hBn, -, -, hb3⟩
    have Hw3 := Lib.hid (Below.thn Hw2.out hb3)
    have HBn := Lib.hid hBn
    clear hb3 hBn
    go_wp2_with fail
    refine Calls.mono (refNew_yes na nb _ (by omega) (by omega)) ?_
    rintro e w4 ⟨gv, rfl, hPv, hb4⟩
    have hal := Below.al1 w4 (.cells #[.int .i64 (na : Int), .int .i64 (nb : Int), .slice (some ⟨gv, 0, none⟩) (na * nb) (na * nb)] 39)
    have hiv : Im3 (w4.alloc (.cells #[.int .i64 (na : Int), .int .i64 (nb : Int), .slice (some ⟨gv, 0, none⟩) (na * nb) (na * nb)] 39)) w4.heap.size na nb (.slice (some ⟨gv, 0, none⟩) (na * nb) (na * nb)) := Im3.new rfl
    have hPv2 := hPv.later hal
    have hBn2 := (HBn.out.later hb4).later hal
    have Hw4 := Lib.hid (Below.thn (Below.thn Hw3.out hb4) hal)
    clear hb4 hs hal hPv HBn
    go_upto_region 5 with (fail)
    generalize (w4.alloc (.cells #[.int .i64 (na : Int), .int .i64 (nb : Int), .slice (some ⟨gv, 0, none⟩) (na * nb) (na * nb)] 39)) = w5 at *
    obtain ⟨n, hn⟩ : ∃ n, na * nb = n := ⟨_, rfl⟩
    have hnl : n ≤ 65536 := by rw [← hn]; exact Nat.mul_le_mul (show na ≤ 256 by omega) (show nb ≤ 256 by omega)
    rw [hn] at hiv hPv2 hBn2 ⊢
    obtain ⟨Z, hZ⟩ : ∃ Z, List.replicate n (0 : Int) = Z := ⟨_, rfl⟩
    have hZl : Z.length = n := by rw [← hZ]; simp
    rw [hZ] at hPv2 hBn2
    have Hzl := Lib.hid hZl
    have Hzz := Lib.hid (show (decide ((na : Int) = (na : Int)) && (decide ((nb : Int) = (nb : Int)) && eqL Z Z)) = true by rw [eqL_iff.2 rfl]; simp)
    have HBn2 := Lib.hid hBn2
    have HPv2 := Lib.hid hPv2
    obtain ⟨v0, v1, v2⟩ := hiv.cells
    clear hn hZ hZl hPv2 hBn2 hiv
    have Himg := Lib.hid (show ∀ Wn, Below w5.heap.size w5 Wn → Calls Try.prog 45 #[.pointer (some ⟨Bn, 0, none⟩)] Wn fun e w' => ∃ g', e = .returned (IV na nb (.slice (some ⟨g', 0, none⟩) n n)) ∧ Pix w' g' Z ∧ Pix w' gv Z ∧ Below Wn.heap.size Wn w' from fun Wn hn => by
      refine Calls.mono (image_len Bn na nb gn n Z Wn (HBn2.out.later hn) Hzl.out) ?_
      rintro e w' ⟨g', rfl, -, hP, hb⟩
      exact ⟨g', rfl, hP, (HPv2.out.later hn).later hb, hb⟩)
    have Hsame := Lib.hid (show ∀ gI Wn, Pix Wn gI Z → Pix Wn gv Z → Calls Try.prog 30 #[IV na nb (.slice (some ⟨gI, 0, none⟩) n n), IV na nb (.slice (some ⟨gv, 0, none⟩) n n)] Wn fun e w' => e = .returned (.bool true) ∧ Below Wn.heap.size Wn w' from fun gI Wn h1 h2 => refSame_len (na : Int) (nb : Int) (na : Int) (nb : Int) (some ⟨gI, 0, none⟩) (some ⟨gv, 0, none⟩) n n n n Z Z Wn h1.row h2.row Hzl.out Hzl.out (by omega) Hzz.out)
    go_cut [60] (fun sv wx => sv = .bool false ∧ Below w5.heap.size w5 wx)
    case' first =>
      go_region_held3 (fun w' => w'.cell? ⟨w4.heap.size, 0, none⟩ = some (.int .i64 (na : Int)) ∧ w'.cell? ⟨w4.heap.size, 1, none⟩ = some (.int .i64 (nb : Int)) ∧ w'.cell? ⟨w4.heap.size, 2, none⟩ = some (.slice (some ⟨gv, 0, none⟩) n n)) (first | exact s3_later hbJ (by assumption) | go_keep | exact ⟨cell_later hbI (by assumption), cell_later hbI (by assumption), cell_later hbI (by assumption)⟩ | exact s3_later hbJ (by assumption)) (first | (go_at_call 45; refine Calls.mono (Himg.out _ (by go_grown)) ?_; rintro e wI ⟨gI, rfl, hPI, hPV, hbI⟩) | (go_at_call 30; refine Calls.mono (Hsame.out _ _ (by assumption) (by assumption)) ?_; rintro e wJ ⟨rfl, hbJ⟩))
      all_goals go_wp2_with fail
      all_goals go_meet
      all_goals exact ⟨rfl, Below.thn (show Below w5.heap.size w5 _ from ⟨hbI.os, hbI.tape, hbI.output, hbI.size, hbI.block⟩) hbJ⟩
    case' rest =>
      obtain ⟨rfl, hbx⟩ := hcut
      obtain ⟨w6, hw6⟩ : ∃ w6 : World, w6 = wc := ⟨_, rfl⟩
      subst hw6
      have Hw6 := Lib.hid (Below.thn Hw4.out hbx)
      clear hbx v0 v1 v2 Hw3 Hw4 Himg Hsame HBn2 HPv2 Hzz Hzl hnl
  all_goals
    obtain ⟨m0, m1, m2⟩ := (HI0.out.later Hw6.out).cells
    go_wp2_with fail
    cases hp : pictB wd ht S.length
    case false =>
      refine Calls.mono (from_no wd ht p S.length cp _ hp) ?_
      rintro e w7 ⟨rfl, hb7⟩
      have Hw7 := Lib.hid (Below.thn Hw6.out hb7)
      have Hp := Lib.hid hp
      clear hb7 hp m0 m1 m2 Hw6
      obtain ⟨m0, m1, m2⟩ := (HI1.out.later Hw7.out).cells
      go_wp2_with fail
      cases hq : pictB owd oht O.length
      case false =>
        refine Calls.mono (from_no owd oht op O.length oc _ hq) ?_
        rintro e w8 ⟨rfl, hb8⟩
        have Hw8 := Lib.hid (Below.thn Hw7.out hb8)
        have Hq := Lib.hid hq
        clear hb8 hq m0 m1 m2 Hw7
        go_wp2_with fail
        refine Calls.mono (diff_nil1 none _) ?_
        rintro e w9 ⟨rfl, hb9⟩
        have Hw9 := Lib.hid (Below.thn Hw8.out hb9)
        clear hb9  Hw8
        obtain ⟨m0, m1, m2⟩ := (HI0.out.later Hw9.out).cells
        go_wp2_with fail
        refine Calls.mono (refIs_eq wd ht p S.length cp _ Hp.out) ?_
        rintro e w10 ⟨rfl, hb10⟩
        have Hw10 := Lib.hid (Below.thn Hw9.out hb10)
        clear hb10 m0 m1 m2 Hw9
        go_upto_region 11 with (fail)
        obtain ⟨m0, m1, m2⟩ := (HI0.out.later Hw10.out).rules
        obtain ⟨n0, n1, n2⟩ := (HI1.out.later Hw10.out).rules
        have hq' := After.ne w10
        refine wp_region_in ⟨w10, Below.refl _ _⟩ (by kernel_rfl) (by kernel_rfl) ?_
        repeat (go_big_quiet_step ((go_at_call 49; exact Makes.after (same_nil3 _))))
        go_big_quiet_step ((go_at_call 29; exact Makes.after (refIs_eq wd ht p S.length cp _ Hp.out)))
        repeat (go_big_quiet_step (fail))
        go_big_quiet_step ((go_at_call 29; exact Makes.after (refIs_eq owd oht op O.length oc _ Hq.out)))
        repeat (go_big_quiet_step (fail))
        go_big_quiet_step ((go_at_call 27; exact Makes.after (wakes3_any _)))
        repeat (go_big_quiet_step (fail))
        refine wpQuiet_nil ?_
        rintro _ ⟨n1, rfl⟩
        go_wp2
        go_ret
        exact ⟨rfl, Below.thn (Below.thn Hbw.out Hw10.out) n1.below⟩
      case true =>
        obtain ⟨oa, ob, gb, go, rfl, rfl, ho1, ho2, hoab, rfl⟩ := pict_open hq HOr.out
        refine Calls.mono (from_yes oa ob gb go O.length oc O _ (HOr.out.below Hw7.out) rfl HOc.out.1 HOc.out.2 HOu.out ho1 ho2 hoab) ?_
        rintro e w8 ⟨Bo, gx, rfl, -, -, -, -, hb8⟩
        have Hw8 := Lib.hid (Below.thn Hw7.out hb8)
        have Hq := Lib.hid hq
        clear hb8 hq m0 m1 m2 Hw7
        go_wp2_with fail
        refine Calls.mono (diff_nil1 (some Bo) _) ?_
        rintro e w9 ⟨rfl, hb9⟩
        have Hw9 := Lib.hid (Below.thn Hw8.out hb9)
        clear hb9  Hw8
        obtain ⟨m0, m1, m2⟩ := (HI0.out.later Hw9.out).cells
        go_wp2_with fail
        refine Calls.mono (refIs_eq wd ht p S.length cp _ Hp.out) ?_
        rintro e w10 ⟨rfl, hb10⟩
        have Hw10 := Lib.hid (Below.thn Hw9.out hb10)
        clear hb10 m0 m1 m2 Hw9
        go_upto_region 11 with (fail)
        obtain ⟨m0, m1, m2⟩ := (HI0.out.later Hw10.out).rules
        obtain ⟨n0, n1, n2⟩ := (HI1.out.later Hw10.out).rules
        have hq' := After.ne w10
        refine wp_region_in ⟨w10, Below.refl _ _⟩ (by kernel_rfl) (by kernel_rfl) ?_
        repeat (go_big_quiet_step ((go_at_call 49; exact Makes.after (same_nil1 Bo _))))
        go_big_quiet_step ((go_at_call 29; exact Makes.after (refIs_eq wd ht p S.length cp _ Hp.out)))
        repeat (go_big_quiet_step (fail))
        go_big_quiet_step ((go_at_call 29; exact Makes.after (refIs_eq (oa : Int) (ob : Int) (some ⟨gb, go, none⟩) O.length oc _ Hq.out)))
        repeat (go_big_quiet_step (fail))
        go_big_quiet_step ((go_at_call 27; exact Makes.after (wakes3_any _)))
        repeat (go_big_quiet_step (fail))
        refine wpQuiet_nil ?_
        rintro _ ⟨n1, rfl⟩
        go_wp2
        go_ret
        exact ⟨rfl, Below.thn (Below.thn Hbw.out Hw10.out) n1.below⟩
    case true =>
    obtain ⟨ma, mb, fb, fo, rfl, rfl, hm1, hm2, hmab, rfl⟩ := pict_open hp HSr.out
    refine Calls.mono (from_yes ma mb fb fo S.length cp S _ (HSr.out.below Hw6.out) rfl HSc.out.1 HSc.out.2 HSu.out hm1 hm2 hmab) ?_
    rintro e w7 ⟨Bm, gm, rfl, hBm, -, -, -, hb7⟩
    have Hw7 := Lib.hid (Below.thn Hw6.out hb7)
    have Hp := Lib.hid hp
    have HBm := Lib.hid hBm
    clear hb7 hp m0 m1 m2 hBm Hw6
    obtain ⟨m0, m1, m2⟩ := (HI1.out.later Hw7.out).cells
    go_wp2_with fail
    cases hq : pictB owd oht O.length
    case false =>
      refine Calls.mono (from_no owd oht op O.length oc _ hq) ?_
      rintro e w8 ⟨rfl, hb8⟩
      have Hw8 := Lib.hid (Below.thn Hw7.out hb8)
      have Hq := Lib.hid hq
      clear hb8 hq m0 m1 m2 HBm Hw7
      go_wp2_with fail
      refine Calls.mono (diff_nil2 Bm _) ?_
      rintro e w9 ⟨rfl, hb9⟩
      have Hw9 := Lib.hid (Below.thn Hw8.out hb9)
      clear hb9  Hw8
      obtain ⟨m0, m1, m2⟩ := (HI0.out.later Hw9.out).cells
      go_wp2_with fail
      refine Calls.mono (refIs_eq (ma : Int) (mb : Int) (some ⟨fb, fo, none⟩) S.length cp _ Hp.out) ?_
      rintro e w10 ⟨rfl, hb10⟩
      have Hw10 := Lib.hid (Below.thn Hw9.out hb10)
      clear hb10 m0 m1 m2 Hw9
      obtain ⟨m0, m1, m2⟩ := (HI1.out.later Hw10.out).cells
      go_wp2_with fail
      refine Calls.mono (refIs_eq owd oht op O.length oc _ Hq.out) ?_
      rintro e w11 ⟨rfl, hb11⟩
      have Hw11 := Lib.hid (Below.thn Hw10.out hb11)
      clear hb11 m0 m1 m2 Hw10
      go_upto_region 11 with (fail)
      obtain ⟨m0, m1, m2⟩ := (HI0.out.later Hw11.out).rules
      obtain ⟨n0, n1, n2⟩ := (HI1.out.later Hw11.out).rules
      have hq' := After.ne w11
      refine wp_region_in ⟨w11, Below.refl _ _⟩ (by kernel_rfl) (by kernel_rfl) ?_
      repeat (go_big_quiet_step ((go_at_call 49; exact Makes.after (same_nil2 Bm _))))
      go_big_quiet_step ((go_at_call 29; exact Makes.after (refIs_eq (ma : Int) (mb : Int) (some ⟨fb, fo, none⟩) S.length cp _ Hp.out)))
      repeat (go_big_quiet_step (fail))
      go_big_quiet_step ((go_at_call 27; exact Makes.after (wakes3_any _)))
      repeat (go_big_quiet_step (fail))
      refine wpQuiet_nil ?_
      rintro _ ⟨n1, rfl⟩
      go_wp2
      go_ret
      exact ⟨rfl, Below.thn (Below.thn Hbw.out Hw11.out) n1.below⟩
    case true =>
    obtain ⟨oa, ob, gb, go, rfl, rfl, ho1, ho2, hoab, rfl⟩ := pict_open hq HOr.out
    refine Calls.mono (from_yes oa ob gb go O.length oc O _ (HOr.out.below Hw7.out) rfl HOc.out.1 HOc.out.2 HOu.out ho1 ho2 hoab) ?_
    rintro e w8 ⟨Bo, gx, rfl, hBo, -, -, -, hb8⟩
    have Hw8 := Lib.hid (Below.thn Hw7.out hb8)
    have Hq := Lib.hid hq
    have HBo := Lib.hid hBo
    have HBm8 := Lib.hid (HBm.out.later hb8)
    clear hb8 hq hBo HBm m0 m1 m2 Hw7
    rw [cutL_map HSu.out hmab] at HBm8
    rw [cutL_map HOu.out hoab] at HBo
    go_wp2_with fail
    rcases Nat.decEq ma oa with hma | rfl
    · have hne : eqR ⟨0, 0, (ma : Int), (mb : Int)⟩ ⟨0, 0, (oa : Int), (ob : Int)⟩ = false := by simp [eqR]; omega
      have d1 : decide ((ma : Int) = (oa : Int)) = false := by simp; omega
      refine Calls.mono (diff_size Bm ma mb gm Bo oa ob gx _ _ _ HBm8.out HBo.out hne) ?_
      rintro e w9 ⟨rfl, hb9⟩
      have Hw9 := Lib.hid (Below.thn Hw8.out hb9)
      have HBm9 := Lib.hid (HBm8.out.later hb9)
      have HBo9 := Lib.hid (HBo.out.later hb9)
      have Hne := Lib.hid hne
      clear hb9 hne HBm8 HBo Hw8
      obtain ⟨m0, m1, m2⟩ := (HI0.out.later Hw9.out).cells
      go_wp2_with fail
      refine Calls.mono (refIs_eq (ma : Int) (mb : Int) (some ⟨fb, fo, none⟩) S.length cp _ Hp.out) ?_
      rintro e w10 ⟨rfl, hb10⟩
      have Hw10 := Lib.hid (Below.thn Hw9.out hb10)
      have HBm10 := Lib.hid (HBm9.out.later hb10)
      have HBo10 := Lib.hid (HBo9.out.later hb10)
      clear hb10 m0 m1 m2 HBm9 HBo9 Hw9
      obtain ⟨m0, m1, m2⟩ := (HI1.out.later Hw10.out).cells
      go_wp2_with fail
      refine Calls.mono (refIs_eq (oa : Int) (ob : Int) (some ⟨gb, go, none⟩) O.length oc _ Hq.out) ?_
      rintro e w11 ⟨rfl, hb11⟩
      have Hw11 := Lib.hid (Below.thn Hw10.out hb11)
      have HBm11 := Lib.hid (HBm10.out.later hb11)
      have HBo11 := Lib.hid (HBo10.out.later hb11)
      clear hb11 m0 m1 m2 HBm10 HBo10 Hw10
      obtain ⟨m0, m1, m2⟩ := (HI0.out.later Hw11.out).cells
      obtain ⟨n0, n1, n2⟩ := (HI1.out.later Hw11.out).cells
      go_wp2_with fail
      refine Calls.mono (same_size Bm ma mb gm Bo oa ob gx _ _ _ HBm11.out HBo11.out Hne.out) ?_
      rintro e w12 ⟨rfl, hb12⟩
      have Hw12 := Lib.hid (Below.thn Hw11.out hb12)
      clear hb12
      go_wp2_with fail
      refine Calls.mono (wakes3_any _) ?_
      rintro e w13 ⟨rfl, hb13⟩
      go_wp2
      go_ret
      exact ⟨rfl, Below.thn (Below.thn Hbw.out Hw12.out) hb13⟩
    rcases Nat.decEq mb ob with hmb | rfl
    · have hne : eqR ⟨0, 0, (ma : Int), (mb : Int)⟩ ⟨0, 0, (ma : Int), (ob : Int)⟩ = false := by simp [eqR]; omega
      have d1 : decide ((mb : Int) = (ob : Int)) = false := by simp; omega
      refine Calls.mono (diff_size Bm ma mb gm Bo ma ob gx _ _ _ HBm8.out HBo.out hne) ?_
      rintro e w9 ⟨rfl, hb9⟩
      have Hw9 := Lib.hid (Below.thn Hw8.out hb9)
      have HBm9 := Lib.hid (HBm8.out.later hb9)
      have HBo9 := Lib.hid (HBo.out.later hb9)
      have Hne := Lib.hid hne
      clear hb9 hne HBm8 HBo Hw8
      obtain ⟨m0, m1, m2⟩ := (HI0.out.later Hw9.out).cells
      go_wp2_with fail
      refine Calls.mono (refIs_eq (ma : Int) (mb : Int) (some ⟨fb, fo, none⟩) S.length cp _ Hp.out) ?_
      rintro e w10 ⟨rfl, hb10⟩
      have Hw10 := Lib.hid (Below.thn Hw9.out hb10)
      have HBm10 := Lib.hid (HBm9.out.later hb10)
      have HBo10 := Lib.hid (HBo9.out.later hb10)
      clear hb10 m0 m1 m2 HBm9 HBo9 Hw9
      obtain ⟨m0, m1, m2⟩ := (HI1.out.later Hw10.out).cells
      go_wp2_with fail
      refine Calls.mono (refIs_eq (ma : Int) (ob : Int) (some ⟨gb, go, none⟩) O.length oc _ Hq.out) ?_
      rintro e w11 ⟨rfl, hb11⟩
      have Hw11 := Lib.hid (Below.thn Hw10.out hb11)
      have HBm11 := Lib.hid (HBm10.out.later hb11)
      have HBo11 := Lib.hid (HBo10.out.later hb11)
      clear hb11 m0 m1 m2 HBm10 HBo10 Hw10
      obtain ⟨m0, m1, m2⟩ := (HI0.out.later Hw11.out).cells
      obtain ⟨n0, n1, n2⟩ := (HI1.out.later Hw11.out).cells
      go_wp2_with fail
      refine Calls.mono (same_size Bm ma mb gm Bo ma ob gx _ _ _ HBm11.out HBo11.out Hne.out) ?_
      rintro e w12 ⟨rfl, hb12⟩
      have Hw12 := Lib.hid (Below.thn Hw11.out hb12)
      clear hb12
      go_wp2_with fail
      refine Calls.mono (wakes3_any _) ?_
      rintro e w13 ⟨rfl, hb13⟩
      go_wp2
      go_ret
      exact ⟨rfl, Below.thn (Below.thn Hbw.out Hw12.out) hb13⟩
    refine Calls.mono (diff_any Bm ma mb gm Bo gx _ _ _ HBm8.out HBo.out) ?_
    rintro e w9 ⟨u9, rfl, hu9, hb9⟩
    have Hw9 := Lib.hid (Below.thn Hw8.out hb9)
    have HBm9 := Lib.hid (HBm8.out.later hb9)
    have HBo9 := Lib.hid (HBo.out.later hb9)
    have HR9 := Lib.hid (show Row encR 4 w9 u9 (unlL ma mb (S.map cut24) (O.map cut24)) from owns_row' (enc := encR) (k := 4) (fun _ => rfl) hu9)
    clear hb9 HBm8 HBo hu9 Hw8
    obtain ⟨m0, m1, m2⟩ := (HI0.out.later Hw9.out).cells
    go_wp2_with fail
    refine Calls.mono (refIs_eq (ma : Int) (mb : Int) (some ⟨fb, fo, none⟩) S.length cp _ Hp.out) ?_
    rintro e w10 ⟨rfl, hb10⟩
    have Hw10 := Lib.hid (Below.thn Hw9.out hb10)
    have HBm10 := Lib.hid (HBm9.out.later hb10)
    have HBo10 := Lib.hid (HBo9.out.later hb10)
    have HR10 := Lib.hid (HR9.out.below hb10)
    clear hb10 m0 m1 m2 HBm9 HBo9 HR9 Hw9
    obtain ⟨m0, m1, m2⟩ := (HI1.out.later Hw10.out).cells
    go_wp2_with fail
    refine Calls.mono (refIs_eq (ma : Int) (mb : Int) (some ⟨gb, go, none⟩) O.length oc _ Hq.out) ?_
    rintro e w11 ⟨rfl, hb11⟩
    have Hw11 := Lib.hid (Below.thn Hw10.out hb11)
    have HBm11 := Lib.hid (HBm10.out.later hb11)
    have HBo11 := Lib.hid (HBo10.out.later hb11)
    have HR11 := Lib.hid (HR10.out.below hb11)
    clear hb11 m0 m1 m2 HBm10 HBo10 HR10 Hw10
    obtain ⟨m0, m1, m2⟩ := (HI0.out.later Hw11.out).cells
    obtain ⟨n0, n1, n2⟩ := (HI1.out.later Hw11.out).cells
    go_upto_region 14 with (fail)
    clear m0 m1 m2 n0 n1 n2
    have hq' := After.ne w11
    obtain ⟨r0, r1, r2⟩ := (HI0.out.later Hw11.out).rules
    obtain ⟨s0, s1, s2⟩ := (HI1.out.later Hw11.out).rules
    have HownS := Lib.hid (fun m : After w11 => refOwn_any (ma : Int) (mb : Int) (some ⟨fb, fo, none⟩) cp S m.world (HSr.out.below (Below.thn Hw11.out m.below)) (by omega) HSu.out)
    have HownO := Lib.hid (fun m : After w11 => refOwn_any (ma : Int) (mb : Int) (some ⟨gb, go, none⟩) oc O m.world (HOr.out.below (Below.thn Hw11.out m.below)) (by omega) HOu.out)
    refine wp_region_makersD [true, false, true, false, false, false] [postImg ma mb S.length w11.heap.size (S.map cut24), postImg ma mb O.length w11.heap.size (O.map cut24), postBox w11.heap.size, postBox w11.heap.size] (by kernel_rfl) (by kernel_rfl) (by kernel_rfl) (by kernel_rfl) rfl (posts_stay (postImg_stays _ _ _ _ _) (postImg_stays _ _ _ _ _) (postBox_stays _) (postBox_stays _)) ?_
    simp only [pickQ, pickM]
    repeat (refine Lq_step (fun K hK => ?_); go_simp; (refine hK _ ?_; clear hK K))
    refine Lq_nil ?_
    refine Md_cons (fun m => ?_) (fun v1 => ?_)
    · go_simp
      refine ⟨rfl, (HownS.out m).mono ?_⟩
      rintro e Wu ⟨p', c', rfl, hu, hbu⟩
      exact ⟨_, rfl, hbu, ⟨p', c', rfl, owns_base hu m.below.size⟩, fun b hb => by simp [blkOf] at hb⟩
    refine Md_cons (fun m => ?_) (fun v2 => ?_)
    · go_simp
      refine ⟨rfl, (HownO.out m).mono ?_⟩
      rintro e Wu ⟨p', c', rfl, hu, hbu⟩
      exact ⟨_, rfl, hbu, ⟨p', c', rfl, owns_base hu m.below.size⟩, fun b hb => by simp [blkOf] at hb⟩
    refine Md_cons (fun m => ?_) (fun v3 => ?_)
    · go_simp
      exact ⟨Below.al1 _ _, ⟨_, rfl, m.below.size, Im3.new rfl⟩, fun b hb => by simp [blkOf] at hb; subst hb; simp⟩
    refine Md_cons (fun m => ?_) (fun v4 => ?_)
    · go_simp
      exact ⟨Below.al1 _ _, ⟨_, rfl, m.below.size, Im3.new rfl⟩, fun b hb => by simp [blkOf] at hb; subst hb; simp⟩
    refine Md_nil ?_
    intro w12 us hb12 hnd hkn
    obtain ⟨us1, p1, ⟨us2, p2, ⟨us3, p3, ⟨us4, p4, hus, ⟨px, cx, rfl, hx⟩⟩, ⟨py, cy, rfl, hy⟩⟩, ⟨Bx, rfl, hBx, hzx⟩⟩, ⟨By, rfl, hBy, hzy⟩⟩ := hkn
    have hxy : Bx ≠ By := apart2 hnd p1 p2
    clear hus p1 p2 p3 p4 hnd
    have hpos : 0 < ma * mb := Nat.mul_pos (by omega) (by omega)
    obtain ⟨ga, rfl, hrx, -, hnx⟩ := own_at hx (by simp) (by omega)
    obtain ⟨gc, rfl, hry, -, hny⟩ := own_at hy (by simp) (by omega)
    clear hx hy HownS HownO r0 r1 r2 s0 s1 s2 hq' hpos
    simp only [List.length_cons, List.length_nil, List.drop_succ_cons, List.drop_zero]
    have hzy' := im3_other hzy hxy (.int .i64 (ma : Int)) (.int .i64 (mb : Int)) (.slice (some ⟨ga, 0, none⟩) S.length cx)
    obtain ⟨x0, x1, x2⟩ := hzx.cells
    have y0 := hzx.free 0
    have y1 := hzx.free 1
    have y2 := hzx.free 2
    obtain ⟨z0, z1, z2⟩ := hzy'.cells
    have t0 := hzy'.free 0
    have t1 := hzy'.free 1
    have t2 := hzy'.free 2
    have hX := im3_other (hzx.set ma mb (.slice (some ⟨ga, 0, none⟩) S.length cx)) hxy.symm (.int .i64 (ma : Int)) (.int .i64 (mb : Int)) (.slice (some ⟨gc, 0, none⟩) O.length cy)
    have hY := hzy'.set ma mb (.slice (some ⟨gc, 0, none⟩) O.length cy)
    have hbS := Below.st (Below.st (Below.st (Below.st (Below.st (Below.st hb12 ⟨Bx, 0, none⟩ hBx (.int .i64 (ma : Int))) ⟨Bx, 1, none⟩ hBx (.int .i64 (mb : Int))) ⟨Bx, 2, none⟩ hBx (.slice (some ⟨ga, 0, none⟩) S.length cx)) ⟨By, 0, none⟩ hBy (.int .i64 (ma : Int))) ⟨By, 1, none⟩ hBy (.int .i64 (mb : Int))) ⟨By, 2, none⟩ hBy (.slice (some ⟨gc, 0, none⟩) O.length cy)
    have hT : Turns (fun b => b = Bx ∨ b = By) w12 ((((((w12.setCell ⟨Bx, 0, none⟩ (.int .i64 (ma : Int))).setCell ⟨Bx, 1, none⟩ (.int .i64 (mb : Int))).setCell ⟨Bx, 2, none⟩ (.slice (some ⟨ga, 0, none⟩) S.length cx)).setCell ⟨By, 0, none⟩ (.int .i64 (ma : Int))).setCell ⟨By, 1, none⟩ (.int .i64 (mb : Int))).setCell ⟨By, 2, none⟩ (.slice (some ⟨gc, 0, none⟩) O.length cy)) := ((((((Turns.refl _ w12).set (p := ⟨Bx, 0, none⟩) (Or.inl rfl) _).set (p := ⟨Bx, 1, none⟩) (Or.inl rfl) _).set (p := ⟨Bx, 2, none⟩) (Or.inl rfl) _).set (p := ⟨By, 0, none⟩) (Or.inr rfl) _).set (p := ⟨By, 1, none⟩) (Or.inr rfl) _).set (p := ⟨By, 2, none⟩) (Or.inr rfl) _
    have hrx' := hrx.turns hT (fun a e h => by cases e; rcases h with h | h; exact hnx _ (h ▸ hzx); exact hnx _ (h ▸ hzy))
    have hry' := hry.turns hT (fun a e h => by cases e; rcases h with h | h; exact hny _ (h ▸ hzx); exact hny _ (h ▸ hzy))
    obtain ⟨w14, hw14⟩ : ∃ w14, ((((((w12.setCell ⟨Bx, 0, none⟩ (.int .i64 (ma : Int))).setCell ⟨Bx, 1, none⟩ (.int .i64 (mb : Int))).setCell ⟨Bx, 2, none⟩ (.slice (some ⟨ga, 0, none⟩) S.length cx)).setCell ⟨By, 0, none⟩ (.int .i64 (ma : Int))).setCell ⟨By, 1, none⟩ (.int .i64 (mb : Int))).setCell ⟨By, 2, none⟩ (.slice (some ⟨gc, 0, none⟩) O.length cy)) = w14 := ⟨_, rfl⟩
    rw [hw14] at hX hY hbS hrx' hry'
    have Hw14 := Lib.hid (Below.thn Hw11.out hbS)
    have HX := Lib.hid hX
    have HY := Lib.hid hY
    have Hrx := Lib.hid hrx'
    have Hry := Lib.hid hry'
    have HBm14 := Lib.hid (HBm11.out.later hbS)
    have HBo14 := Lib.hid (HBo11.out.later hbS)
    have HR14 := Lib.hid (HR11.out.below hbS)
    clear hX hY hbS hT hrx hry hrx' hry' hnx hny hzx hzy hzy' hBx hBy hb12 HBm11 HBo11 HR11
    go_upto_region 15 with (fail)
    clear x0 x1 x2 y0 y1 y2 z0 z1 z2 t0 t1 t2 hw14 hxy
    obtain ⟨t, ht⟩ : ∃ t, eqL (S.map cut24) (O.map cut24) = t := ⟨_, rfl⟩
    have Hdiff := Lib.hid (fun (Wn : World) (hn : Below w14.heap.size w14 Wn) => refDiff_len ma mb S.length O.length (some ⟨ga, 0, none⟩) (some ⟨gc, 0, none⟩) cx cy (S.map cut24) (O.map cut24) Wn (Hrx.out.below hn) (Hry.out.below hn) (by simp) (by simp) hmab hoab hm1 hm2)
    have Hrects := Lib.hid (fun (u : Value) (Wn : World) (hn : Below w14.heap.size w14 Wn) (hu : Row encR 4 Wn u (unlL ma mb (S.map cut24) (O.map cut24))) => rects3_any u9 u _ Wn (HR14.out.below hn) hu)
    have Hsame := Lib.hid (fun (Wn : World) (hn : Below w14.heap.size w14 Wn) => (ht ▸ same_any Bm ma mb gm Bo gx _ _ Wn (HBm14.out.later hn) (HBo14.out.later hn) : Makes Try.prog 49 #[.pointer (some ⟨Bm, 0, none⟩), .pointer (some ⟨Bo, 0, none⟩)] Wn (.bool t)))
    have HsameR := Lib.hid (fun (Wn : World) (hn : Below w14.heap.size w14 Wn) => refSame_len (t := t) (ma : Int) (mb : Int) (ma : Int) (mb : Int) (some ⟨ga, 0, none⟩) (some ⟨gc, 0, none⟩) S.length O.length cx cy (S.map cut24) (O.map cut24) Wn (Hrx.out.below hn) (Hry.out.below hn) (by simp) (by simp) (by omega) (by simp [ht]))
    clear ht
    have HS : (fun w' : World => (w'.cell? ⟨Bx, 0, none⟩ = some (.int .i64 (ma : Int)) ∧ w'.cell? ⟨Bx, 1, none⟩ = some (.int .i64 (mb : Int)) ∧ w'.cell? ⟨Bx, 2, none⟩ = some (.slice (some ⟨ga, 0, none⟩) S.length cx)) ∧ (w'.cell? ⟨By, 0, none⟩ = some (.int .i64 (ma : Int)) ∧ w'.cell? ⟨By, 1, none⟩ = some (.int .i64 (mb : Int)) ∧ w'.cell? ⟨By, 2, none⟩ = some (.slice (some ⟨gc, 0, none⟩) O.length cy))) w14 := ⟨HX.out.cells, HY.out.cells⟩
    have HS' : (w14.cell? ⟨Bx, 0, none⟩ = some (.int .i64 (ma : Int)) ∧ w14.cell? ⟨Bx, 1, none⟩ = some (.int .i64 (mb : Int)) ∧ w14.cell? ⟨Bx, 2, none⟩ = some (.slice (some ⟨ga, 0, none⟩) S.length cx)) ∧ (w14.cell? ⟨By, 0, none⟩ = some (.int .i64 (ma : Int)) ∧ w14.cell? ⟨By, 1, none⟩ = some (.int .i64 (mb : Int)) ∧ w14.cell? ⟨By, 2, none⟩ = some (.slice (some ⟨gc, 0, none⟩) O.length cy)) := HS
    clear HS
    obtain ⟨⟨x0, x1, x2⟩, z0, z1, z2⟩ := id HS'
    go_region_held3 (fun w' : World => (w'.cell? ⟨Bx, 0, none⟩ = some (.int .i64 (ma : Int)) ∧ w'.cell? ⟨Bx, 1, none⟩ = some (.int .i64 (mb : Int)) ∧ w'.cell? ⟨Bx, 2, none⟩ = some (.slice (some ⟨ga, 0, none⟩) S.length cx)) ∧ (w'.cell? ⟨By, 0, none⟩ = some (.int .i64 (ma : Int)) ∧ w'.cell? ⟨By, 1, none⟩ = some (.int .i64 (mb : Int)) ∧ w'.cell? ⟨By, 2, none⟩ = some (.slice (some ⟨gc, 0, none⟩) O.length cy))) (first | exact s6_later hbD (by assumption) | exact s6_later hbR (by assumption) | exact s6_later hbP (by assumption) | exact s6_later hbQ (by assumption) | exact s6_later hbK (by assumption) | go_keep) (first | (go_at_call 51; refine Calls.mono (Hdiff.out _ (by go_grown)) ?_; rintro e wD ⟨uD, rfl, hD, hbD⟩) | (go_at_call 50; refine Calls.mono (Hrects.out _ _ (undrew hbD) (by assumption)) ?_; rintro e wR ⟨rfl, hbR⟩) | (go_at_call 49; refine Calls.mono (Hsame.out _ (Below.thn (undrew hbD) hbR)) ?_; rintro e wP ⟨rfl, hbP⟩) | (go_at_call 30; refine Calls.mono (HsameR.out _ (Below.thn (Below.thn (undrew hbD) hbR) hbP)) ?_; rintro e wQ ⟨rfl, hbQ⟩) | (go_at_call 27; refine Calls.mono (wakes3_any _) ?_; rintro e wK ⟨rfl, hbK⟩))
    all_goals go_wp2_with fail
    all_goals go_ret
    all_goals exact ⟨by simp, Below.thn (Below.thn Hbw.out Hw14.out) (Below.thn (Below.thn (Below.thn (Below.thn (undrew hbD) hbR) hbP) hbQ) hbK)⟩

end Go.Proofs.Ytpddkhhdleknnaa
