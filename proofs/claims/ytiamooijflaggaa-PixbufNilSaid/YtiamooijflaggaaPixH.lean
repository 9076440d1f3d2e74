/- pixbuf's allIn, Part, At. -/
import Derived.Test.YtiamooijflaggaaPixG
import Derived.Test.YtiamooijflaggaaRectEqs
import Derived.Test.YtiamooijflaggaaRectMath
namespace Go.Proofs.Ytiamooijflaggaa
open Go.RowKit

/-- A picture and a number, as results: the picture read out of its cells. -/
theorem results_iv2 {fn : Func} {p u : Tmp} {tmps : Array Value} {w : World} {B : Nat} {wd ht : Int} {sv v : Value} (h : fn.results = #[.cell p 39, .tmp u]) (hp : tmps.getD p undef = .pointer (some ⟨B, 0, none⟩)) (hu : tmps.getD u undef = v) (hl : w.heap[B]? = some (.cells #[.int .i64 wd, .int .i64 ht, sv] 39)) :
    (results fn tmps).run Try.prog w = .ok (.tuple #[IV wd ht sv, v]) w := by
  have hp' : tmps[p]?.getD undef = .pointer (some ⟨B, 0, none⟩) := by simpa using hp
  have hu' : tmps[u]?.getD undef = v := by simpa using hu
  have c0 : w.cell? ⟨B, 0, none⟩ = some (.int .i64 wd) := by simp [World.cell?, hl]
  have c1 : w.cell? ⟨B, 1, none⟩ = some (.int .i64 ht) := by simp [World.cell?, hl]
  have c2 : w.cell? ⟨B, 2, none⟩ = some sv := by simp [World.cell?, hl]
  simp [results, h, hp', hu', go_sem, c0, c1, c2]

/-- Has it pixels, and a picture them all? -/
def allInB (r : Rc) (wd ht : Int) : Bool := !emptyR r && inR r ⟨0, 0, wd, ht⟩

set_option maxHeartbeats 1000000 in
theorem allIn_any (r : Rc) (wd ht : Nat) (sv : Value) (w : World) (hf : Fit r) : Makes Try.prog 90 #[RV r, IV wd ht sv] w (.bool (allInB r wd ht)) := by
  unfold Makes
  have hfw : Fit ⟨0, 0, (wd : Int), (ht : Int)⟩ := ⟨show (0 : Int) ≤ 9223372036854775807 by decide, show (0 : Int) ≤ 9223372036854775807 by decide⟩
  obtain ⟨IN, hIN⟩ : ∃ b, inR r ⟨0, 0, (wd : Int), (ht : Int)⟩ = b := ⟨_, rfl⟩
  cases he : emptyR r
  all_goals
    have Hres := Lib.hid (show allInB r wd ht = (!emptyR r && IN) by rw [allInB, hIN])
    have hgB := heap_pushed [.cells #[.int .i64 r.x, .int .i64 r.y, .int .i64 r.a, .int .i64 r.b] 30, .cells #[.int .i64 (wd : Int), .int .i64 (ht : Int), sv] 39] w
    simp only [List.foldl_cons, List.foldl_nil] at hgB
    have bi : Im3 ((w.alloc (.cells #[.int .i64 r.x, .int .i64 r.y, .int .i64 r.a, .int .i64 r.b] 30)).alloc (.cells #[.int .i64 (wd : Int), .int .i64 (ht : Int), sv] 39)) (w.heap.size + 1) wd ht sv := (hgB 1 _).2 rfl
    have lr : Lies ((w.alloc (.cells #[.int .i64 r.x, .int .i64 r.y, .int .i64 r.a, .int .i64 r.b] 30)).alloc (.cells #[.int .i64 (wd : Int), .int .i64 (ht : Int), sv] 39)) w.heap.size r := (Lies.new rfl).later (Below.al1 _ _)
    have hal := Below.al2 w (.cells #[.int .i64 r.x, .int .i64 r.y, .int .i64 r.a, .int .i64 r.b] 30) (.cells #[.int .i64 (wd : Int), .int .i64 (ht : Int), sv] 39)
    have Hal := Lib.hid hal
    clear hgB hal
    go_enter Try.func90, Try.ntmps90
    go_upto_region 1 with (fail)
    generalize ((w.alloc (.cells #[.int .i64 r.x, .int .i64 r.y, .int .i64 r.a, .int .i64 r.b] 30)).alloc (.cells #[.int .i64 (wd : Int), .int .i64 (ht : Int), sv] 39)) = W at *
    have hne := After.ne W
    obtain ⟨l0, l1, l2, l3⟩ := lr.rules
    have k0 := After.rule bi.cells.1
    have k1 := After.rule bi.cells.2.1
    have k2 := After.rule bi.cells.2.2
    have He := Lib.hid he
    have HIN := Lib.hid hIN
    clear lr bi he hIN
    refine wp_region_after (by kernel_rfl) (by kernel_rfl) ?_
    repeat (go_big_quiet_step (first | (go_at_call 58; exact Makes.after (empty_eq r _ He.out hf)) | (go_at_call 84; exact Makes.after (whole_any _ _ _ _)) | (go_at_call 57; exact Makes.after (in_eq r _ _ HIN.out hf hfw))))
    refine wpQuiet_nil ?_
    rintro _ ⟨nq, rfl⟩
    have Hn := Lib.hid nq.below
    go_wp2
    go_ret
    exact ⟨ret_bool (by rw [Hres.out, He.out]; simp), Hal.out.trans (Hn.out.mono Hal.out.size)⟩

/-- A rectangle that is all in the picture: natural numbers. -/
theorem allInB_true {r : Rc} {wd ht : Nat} (h : allInB r wd ht = true) : ∃ px py aw ah : Nat, r = ⟨px, py, aw, ah⟩ ∧ 1 ≤ aw ∧ 1 ≤ ah ∧ px + aw ≤ wd ∧ py + ah ≤ ht := by
  simp only [allInB, Bool.and_eq_true, Bool.not_eq_true'] at h
  have h1 := emptyR_false.1 h.1
  rcases in_iff.1 h.2 with h2 | ⟨-, -, h3, h4, h5, h6⟩
  · rw [h.1] at h2; cases h2
  · simp only at h3 h4 h5 h6
    refine ⟨r.x.toNat, r.y.toNat, r.a.toNat, r.b.toNat, ?_, by omega, by omega, by omega, by omega⟩
    obtain ⟨rx, ry, ra, rb⟩ := r
    simp only at h1 h3 h4 h5 h6
    simp only [Rc.mk.injEq]
    omega

/-- What both ways of Part begin with. -/
theorem allIn_eq {t : Bool} (r : Rc) (wd ht : Nat) (sv : Value) (w : World) (h : allInB r wd ht = t) (hf : Fit r) : Makes Try.prog 90 #[RV r, IV wd ht sv] w (.bool t) := h ▸ allIn_any r wd ht sv w hf

set_option maxHeartbeats 2000000 in
theorem part_no (B wd ht g : Nat) (L : List Int) (r : Rc) (w : World) (h : BufAt w B wd ht g L) (hf : Fit r) (hno : allInB r wd ht = false) :
    Makes Try.prog 45 #[.pointer (some ⟨B, 0, none⟩), RV r] w (.tuple #[IV 0 0 (.slice none 0 0), .int .i64 5]) := by
  unfold Makes
  have hgB := heap_pushed [.cells #[.int .i64 r.x, .int .i64 r.y, .int .i64 r.a, .int .i64 r.b] 30, .cells #[.int .i64 0, .int .i64 0, .slice none 0 0] 39] w
  simp only [List.foldl_cons, List.foldl_nil] at hgB
  have hal := Below.al2 w (.cells #[.int .i64 r.x, .int .i64 r.y, .int .i64 r.a, .int .i64 r.b] 30) (.cells #[.int .i64 0, .int .i64 0, .slice none 0 0] 39)
  have br : Im3 ((w.alloc (.cells #[.int .i64 r.x, .int .i64 r.y, .int .i64 r.a, .int .i64 r.b] 30)).alloc (.cells #[.int .i64 0, .int .i64 0, .slice none 0 0] 39)) (w.heap.size + 1) 0 0 (.slice none 0 0) := (hgB 1 _).2 rfl
  have lr : Lies ((w.alloc (.cells #[.int .i64 r.x, .int .i64 r.y, .int .i64 r.a, .int .i64 r.b] 30)).alloc (.cells #[.int .i64 0, .int .i64 0, .slice none 0 0] 39)) w.heap.size r := (Lies.new rfl).later (Below.al1 _ _)
  have h0 := h.later hal
  have Hal := Lib.hid hal
  clear hgB hal h
  go_enter Try.func45, Try.ntmps45
  go_upto_region 3 with (fail)
  generalize ((w.alloc (.cells #[.int .i64 r.x, .int .i64 r.y, .int .i64 r.a, .int .i64 r.b] 30)).alloc (.cells #[.int .i64 0, .int .i64 0, .slice none 0 0] 39)) = W at *
  have hne := After.ne W
  obtain ⟨l0, l1, l2, l3⟩ := lr.rules
  have k0 := After.rule h0.three.1
  have k1 := After.rule h0.three.2.1
  have k2 := After.rule h0.three.2.2
  have Hno := Lib.hid hno
  have Hbr := Lib.hid br
  clear lr h0 hno br
  refine wp_region_after (by kernel_rfl) (by kernel_rfl) ?_
  repeat (go_big_quiet_step ((go_at_call 90; exact Makes.after (allIn_eq r wd ht _ _ Hno.out hf))))
  refine wpQuiet_nil ?_
  rintro _ ⟨nq, rfl⟩
  have br2 := Hbr.out.later nq.below
  obtain ⟨d0, d1, d2⟩ := br2.cells
  have f0 := br2.free 0
  have f1 := br2.free 1
  have f2 := br2.free 2
  have Hres := Lib.hid (br2.set 0 0 (.slice none 0 0))
  have Hbel := Lib.hid (Hal.out.trans (nq.below.mono Hal.out.size))
  clear l0 l1 l2 l3 k0 k1 k2 hne br2
  go_wp2
  exact bodyPost_ret (v := .tuple #[IV 0 0 (.slice none 0 0), .int .i64 5]) (results_iv2 (B := w.heap.size + 1) Try.results45 rfl rfl Hres.out) rfl ⟨rfl, Hbel.out.trans ((below_set3 _ _ _).mono (by omega))⟩

set_option maxHeartbeats 2000000 in
theorem part_yes (B wd ht g px py aw ah : Nat) (L : List Int) (w : World) (h : BufAt w B wd ht g L) (ha : 1 ≤ aw) (hh : 1 ≤ ah) (h1 : px + aw ≤ wd) (h2 : py + ah ≤ ht) :
    Calls Try.prog 45 #[.pointer (some ⟨B, 0, none⟩), RV ⟨px, py, aw, ah⟩] w fun e w' => ∃ g', e = .returned (.tuple #[IV aw ah (.slice (some ⟨g', 0, none⟩) (aw * ah) (aw * ah)), .int .i64 0]) ∧ w.heap.size ≤ g' ∧ Pix w' g' (cutL wd px py aw ah L) ∧ Below w.heap.size w w' := by
  have hw := h.wd1
  have hht := h.ht1
  have hlen := h.len
  have hf : Fit ⟨px, py, aw, ah⟩ := ⟨show (px : Int) ≤ 9223372036854775807 by omega, show (py : Int) ≤ 9223372036854775807 by omega⟩
  have hyes : allInB ⟨px, py, aw, ah⟩ wd ht = true := by
    have he : emptyR ⟨px, py, aw, ah⟩ = false := emptyR_false.2 (by simp only; omega)
    have he2 : emptyR ⟨0, 0, (wd : Int), (ht : Int)⟩ = false := emptyR_false.2 (by simp only; omega)
    rw [allInB, he, in_iff.2 (.inr ⟨he, he2, by simp only; omega, by simp only; omega, by simp only; omega, by simp only; omega⟩)]; rfl
  have hfit := h.fit h1 h2
  have hgB := heap_pushed [.cells #[.int .i64 (px : Int), .int .i64 (py : Int), .int .i64 (aw : Int), .int .i64 (ah : Int)] 30, .cells #[.int .i64 0, .int .i64 0, .slice none 0 0] 39] w
  simp only [List.foldl_cons, List.foldl_nil] at hgB
  have hal := Below.al2 w (.cells #[.int .i64 (px : Int), .int .i64 (py : Int), .int .i64 (aw : Int), .int .i64 (ah : Int)] 30) (.cells #[.int .i64 0, .int .i64 0, .slice none 0 0] 39)
  have br : Im3 ((w.alloc (.cells #[.int .i64 (px : Int), .int .i64 (py : Int), .int .i64 (aw : Int), .int .i64 (ah : Int)] 30)).alloc (.cells #[.int .i64 0, .int .i64 0, .slice none 0 0] 39)) (w.heap.size + 1) 0 0 (.slice none 0 0) := (hgB 1 _).2 rfl
  have lr : Lies ((w.alloc (.cells #[.int .i64 (px : Int), .int .i64 (py : Int), .int .i64 (aw : Int), .int .i64 (ah : Int)] 30)).alloc (.cells #[.int .i64 0, .int .i64 0, .slice none 0 0] 39)) w.heap.size ⟨px, py, aw, ah⟩ := (Lies.new (r := ⟨px, py, aw, ah⟩) rfl).later (Below.al1 _ _)
  have h0 := h.later hal
  have Hal := Lib.hid hal
  have Hu := Lib.hid h.u
  clear hgB hal h
  go_enter Try.func45, Try.ntmps45
  go_upto_region 3 with (fail)
  generalize ((w.alloc (.cells #[.int .i64 (px : Int), .int .i64 (py : Int), .int .i64 (aw : Int), .int .i64 (ah : Int)] 30)).alloc (.cells #[.int .i64 0, .int .i64 0, .slice none 0 0] 39)) = W at *
  have hne := After.ne W
  obtain ⟨l0, l1, l2, l3⟩ := lr.rules
  have k0 := After.rule h0.three.1
  have k1 := After.rule h0.three.2.1
  have k2 := After.rule h0.three.2.2
  have Hyes := Lib.hid hyes
  have Hbr := Lib.hid br
  have Hlr := Lib.hid lr
  have H0 := Lib.hid h0
  clear lr h0 hyes br
  refine wp_region_after (by kernel_rfl) (by kernel_rfl) ?_
  repeat (go_big_quiet_step ((go_at_call 90; exact Makes.after (allIn_eq ⟨px, py, aw, ah⟩ wd ht _ _ Hyes.out hf))))
  refine wpQuiet_nil ?_
  rintro _ ⟨nq, rfl⟩
  have hbq := nq.below
  have br2 := Hbr.out.later hbq
  have lr2 := Hlr.out.later hbq
  have b2 := H0.out.later hbq
  have Hbel2 := Lib.hid (Hal.out.trans (hbq.mono Hal.out.size))
  clear l0 l1 l2 l3 k0 k1 k2 hne hbq
  generalize nq.world = W2 at *
  go_upto_region 5 with (fail)
  have hne := After.ne W2
  obtain ⟨l0, l1, l2, l3⟩ := lr2.rules
  have k0 := After.rule b2.three.1
  have k1 := After.rule b2.three.2.1
  have k2 := After.rule b2.three.2.2
  have Hbr2 := Lib.hid br2
  have Hb2 := Lib.hid b2
  clear br2 lr2 b2
  refine wp_region_head 5 (by kernel_rfl) (by kernel_rfl) (by kernel_rfl) ?_
  repeat (refine Lq_step (fun K hK => ?_); go_simp; first | (refine hK _ ?_; clear hK K) | (apply Exists.intro; refine ⟨fun n => ?_, hK _ ?_⟩; fail))
  refine Lq_nil ?_
  intro w3 hb3
  clear l0 l1 l2 l3 k0 k1 k2 hne
  have b3 := Hb2.out.later hb3
  have hco := cutOut_any wd ht px py aw ah g 0 L.length L.length L w3 b3.pix.row rfl (Nat.le_refl _) (by omega) Hu.out.u32 (by omega) (by omega) (by omega) (by omega) (by omega) hfit
  have Hb03 := Lib.hid (Hbel2.out.trans (hb3.mono Hbel2.out.size))
  have Hbr3 := Lib.hid (Hbr2.out.later hb3)
  clear hb3 b3
  go_wp2_with fail
  refine Calls.mono hco ?_
  rintro e w4 ⟨g', rfl, hg, hP, hb4⟩
  have br4 := Hbr3.out.later hb4
  have hlt3 := Hbr3.out.lt
  obtain ⟨d0, d1, d2⟩ := br4.cells
  have f0 := br4.free 0
  have f1 := br4.free 1
  have f2 := br4.free 2
  have Hres := Lib.hid (br4.set aw ah (.slice (some ⟨g', 0, none⟩) (aw * ah) (aw * ah)))
  have HP := Lib.hid hP
  have Hbel := Lib.hid (Hb03.out.trans (hb4.mono Hb03.out.size))
  have hgn : g' ≠ w.heap.size + 1 := by omega
  have hgs := Hb03.out.size
  clear hco hP hb4 br4
  go_wp2
  refine bodyPost_ret (v := .tuple #[IV aw ah (.slice (some ⟨g', 0, none⟩) (aw * ah) (aw * ah)), .int .i64 0]) (results_iv2 (B := w.heap.size + 1) Try.results45 rfl rfl Hres.out) rfl ⟨g', rfl, by omega, ?_, Hbel.out.trans ((below_set3 _ _ _).mono (by omega))⟩
  exact HP.out.same (((Below.heap_setCell _ _ _ _ (fun e => hgn e)).trans (Below.heap_setCell _ _ _ _ (fun e => hgn e))).trans (Below.heap_setCell _ _ _ _ (fun e => hgn e)))

end Go.Proofs.Ytiamooijflaggaa
