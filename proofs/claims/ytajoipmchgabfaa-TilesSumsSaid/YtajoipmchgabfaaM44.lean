/- Several texts in one, each with its own head. -/
import Derived.Test.YtajoipmchgabfaaM43
import Derived.Test.YtajoipmchgabfaaM21
import Derived.Test.YtajoipmchgabfaaM3
/- pixbuf's W, H, From, Image, Clone. -/
namespace Go.Proofs.Ytajoipmchgabfaa
open Go.RowKit

set_option maxHeartbeats 400000 in
theorem bufW_any (B wd ht g : Nat) (L : List Int) (w : World) (h : BufAt w B wd ht g L) : Makes Try.prog 10 #[.pointer (some ⟨B, 0, none⟩)] w (.int .i64 (wd : Int)) := by
  unfold Makes
  obtain ⟨c0, c1, c2⟩ := h.three
  go_enter Try.func10, Try.ntmps10
  go_wp2
  go_ret
  exact ⟨rfl, Below.refl _ _⟩

set_option maxHeartbeats 400000 in
theorem bufH_any (B wd ht g : Nat) (L : List Int) (w : World) (h : BufAt w B wd ht g L) : Makes Try.prog 11 #[.pointer (some ⟨B, 0, none⟩)] w (.int .i64 (ht : Int)) := by
  unfold Makes
  obtain ⟨c0, c1, c2⟩ := h.three
  go_enter Try.func11, Try.ntmps11
  go_wp2
  go_ret
  exact ⟨rfl, Below.refl _ _⟩

set_option maxHeartbeats 1000000 in
theorem from_no (wd ht : Int) (p : Option Addr) (n c : Nat) (w : World) (hb : pictB wd ht n = false) : Makes Try.prog 7 #[IV wd ht (.slice p n c)] w (.tuple #[.pointer none, .int .i64 1]) := by
  unfold Makes
  go_enter Try.func7, Try.ntmps7
  go_wp2_with fail
  refine Calls.mono (isPicture_any wd ht p n c _) ?_
  rw [hb]
  rintro e w1 ⟨rfl, hb1⟩
  go_wp2
  go_ret2
  exact ⟨rfl, Below.thn (Below.al1 _ _) hb1⟩

set_option maxHeartbeats 2000000 in
theorem from_yes (wd ht fb foff n c : Nat) (S : List Int) (w : World) (hSr : RowAt encU 1 w (some ⟨fb, foff, none⟩) S) (hSl : S.length = n) (hcap : n ≤ c) (hmax : c ≤ 9223372036854775807) (hS : U32 S) (h1 : 1 ≤ wd ∧ wd ≤ 256) (h2 : 1 ≤ ht ∧ ht ≤ 256) (hn : wd * ht = n) :
    Calls Try.prog 7 #[IV wd ht (.slice (some ⟨fb, foff, none⟩) n c)] w fun e w' => ∃ B g, e = .returned (.tuple #[.pointer (some ⟨B, 0, none⟩), .int .i64 0]) ∧ BufAt w' B wd ht g (cutL wd 0 0 wd ht S) ∧ w.heap.size ≤ B ∧ w.heap.size ≤ g ∧ B ≠ g ∧ Below w.heap.size w w' := by
  have hp : pictB wd ht n = true := by
    have : ((n : Nat) : Int) = (wd : Int) * (ht : Int) := by rw [← hn, Int.natCast_mul]
    simp [pictB, sizedB, this]; omega
  have hfit : ∀ k, k < ht → (0 + k) * wd + 0 + wd ≤ S.length := fun k hk => by
    rw [hSl, ← hn, Nat.zero_add, Nat.add_zero]
    have : (k + 1) * wd ≤ ht * wd := Nat.mul_le_mul_right wd (by omega)
    rw [Nat.add_mul, Nat.one_mul, Nat.mul_comm ht wd] at this
    exact this
  obtain ⟨k1, k2⟩ := cutL_ok hS hfit
  have Hs := Lib.hid hSr
  have Hfit := Lib.hid hfit
  have Hk1 := Lib.hid k1
  have Hk2 := Lib.hid k2
  clear hfit k1 k2 hSr
  go_enter Try.func7, Try.ntmps7
  go_wp2_with fail
  refine Calls.mono (isPicture_any wd ht _ n c _) ?_
  rw [hp]
  rintro e w1 ⟨rfl, hb1⟩
  have hbw := Below.thn (Below.al1 w (.cells #[.int .i64 (wd : Int), .int .i64 (ht : Int), .slice (some ⟨fb, foff, none⟩) n c] 24)) hb1
  have bm : Im3 w1 w.heap.size wd ht (.slice (some ⟨fb, foff, none⟩) n c) := Im3.later (World.alloc_heap_new w _) hb1
  have Hbw := Lib.hid hbw
  clear hb1 hbw
  go_upto_region 3 with (fail)
  have hne := After.ne w1
  have k0 := After.rule bm.cells.1
  have k1 := After.rule bm.cells.2.1
  have k2 := After.rule bm.cells.2.2
  refine wp_region_head 3 (by kernel_rfl) (by kernel_rfl) (by kernel_rfl) ?_
  repeat (refine Lq_step (fun K hK => ?_); go_simp; first | (refine hK _ ?_; clear hK K) | (apply Exists.intro; refine ⟨fun n => ?_, hK _ ?_⟩; (go_at_call 31; exact whole_any _ _ _ _); clear hK K))
  refine Lq_nil ?_
  intro w2 hb2
  clear k0 k1 k2 hne bm
  have hb02 := Hbw.out.trans (hb2.mono Hbw.out.size)
  have hco := cutOut_any wd ht 0 0 wd ht fb foff n c S w2 (Hs.out.below hb02) hSl hcap hmax hS (by omega) (by omega) (by omega) (by omega) (by omega) Hfit.out
  rw [show ((0 : Nat) : Int) = 0 from rfl] at hco
  have Hb02 := Lib.hid hb02
  clear hb2 hb02
  go_wp2_with fail
  refine Calls.mono hco ?_
  rintro e w3 ⟨g, rfl, hg, hP, hb3⟩
  have hb03 := Hb02.out.trans (hb3.mono Hb02.out.size)
  have hsz2 := Hb02.out.size
  have hg3 : g < w3.heap.size := hP.lt
  have HP := Lib.hid hP
  have Hb03 := Lib.hid hb03
  clear hco hP hb3 hb03
  go_wp2
  go_ret2
  have hal := Below.al1 w3 (.cells #[.int .i64 (wd : Int), .int .i64 (ht : Int), .slice (some ⟨g, 0, none⟩) n n] 65)
  have hcl : (cutL wd 0 0 wd ht S).length = n := Hk1.out.trans hn
  refine ⟨w3.heap.size, g, rfl, ⟨?_, HP.out.later hal, hn.trans hcl.symm, h1, h2, Hk2.out⟩, by have := Hb03.out.size; omega, by omega, by omega, Hb03.out.trans (hal.mono Hb03.out.size)⟩
  rw [hcl]
  exact World.alloc_heap_new _ _


/-- The facts of a buffer's part. -/
theorem BufAt.fit {w : World} {B wd ht g : Nat} {L : List Int} (h : BufAt w B wd ht g L) {px py aw ah : Nat} (h1 : px + aw ≤ wd) (h2 : py + ah ≤ ht) : ∀ k, k < ah → (py + k) * wd + px + aw ≤ L.length := fun k hk => by
  rw [← h.size]
  have : (py + k + 1) * wd ≤ ht * wd := Nat.mul_le_mul_right wd (by omega)
  rw [Nat.add_mul (py + k), Nat.one_mul, Nat.mul_comm ht wd] at this
  omega

set_option maxHeartbeats 2000000 in
theorem image_any (B wd ht g : Nat) (L : List Int) (w : World) (h : BufAt w B wd ht g L) :
    Calls Try.prog 24 #[.pointer (some ⟨B, 0, none⟩)] w fun e w' => ∃ g', e = .returned (IV wd ht (.slice (some ⟨g', 0, none⟩) L.length L.length)) ∧ w.heap.size ≤ g' ∧ Pix w' g' L ∧ Below w.heap.size w w' := by
  have Hb := Lib.hid h
  have hfit := h.fit (px := 0) (py := 0) (aw := wd) (ah := ht) (by omega) (by omega)
  have hL := h.len
  have hal := Below.al1 w (.cells #[.int .i64 0, .int .i64 0, .slice none 0 0] 24)
  have h0 := h.later hal
  obtain ⟨c0, c1, c2⟩ := h0.three
  have br : Im3 (w.alloc (.cells #[.int .i64 0, .int .i64 0, .slice none 0 0] 24)) w.heap.size 0 0 (.slice none 0 0) := World.alloc_heap_new _ _
  have Hal := Lib.hid hal
  have Hbr := Lib.hid br
  have H0 := Lib.hid h0
  have hs1 := h.size
  obtain ⟨hw1, hw2⟩ := h.wd1
  obtain ⟨hh1, hh2⟩ := h.ht1
  have hu := Lib.hid h.u
  clear h h0 hal br
  go_enter Try.func24, Try.ntmps24
  go_upto_region 3 with (fail)
  generalize (w.alloc (.cells #[.int .i64 0, .int .i64 0, .slice none 0 0] 24)) = W at *
  have hne := After.ne W
  have k0 := After.rule c0
  have k1 := After.rule c1
  have k2 := After.rule c2
  clear c0 c1 c2
  refine wp_region_head 9 (by kernel_rfl) (by kernel_rfl) (by kernel_rfl) ?_
  repeat (refine Lq_step (fun K hK => ?_); go_simp; first | (refine hK _ ?_; clear hK K) | (apply Exists.intro; refine ⟨fun n => ?_, hK _ ?_⟩; (go_at_call 31; exact whole_any _ _ _ _); clear hK K))
  refine Lq_nil ?_
  intro w2 hb2
  clear k0 k1 k2 hne
  have h2 := H0.out.later hb2
  have hco := cutOut_any wd ht 0 0 wd ht g 0 L.length L.length L w2 h2.pix.row rfl (Nat.le_refl _) (by omega) hu.out.u32 (by omega) (by omega) (by omega) (by omega) (by omega) hfit
  rw [show ((0 : Nat) : Int) = 0 from rfl, cutL_whole hu.out hs1, hs1] at hco
  have Hb02 := Lib.hid (Hal.out.trans (hb2.mono Hal.out.size))
  have Hbr2 := Lib.hid (Hbr.out.later hb2)
  clear hb2 h2
  go_wp2_with fail
  refine Calls.mono hco ?_
  rintro e w3 ⟨g', rfl, hg, hP, hb3⟩
  have br3 := Hbr2.out.later hb3
  have hlt3 := Hbr2.out.lt
  obtain ⟨d0, d1, d2⟩ := br3.cells
  have f0 := br3.free 0
  have f1 := br3.free 1
  have f2 := br3.free 2
  have Hres := Lib.hid (br3.set wd ht (.slice (some ⟨g', 0, none⟩) L.length L.length))
  have HP := Lib.hid hP
  have Hbel := Lib.hid (Hb02.out.trans (hb3.mono Hb02.out.size))
  have hgn : g' ≠ w.heap.size := by omega
  have hgs := Hb02.out.size
  clear hco hP hb3 br3
  go_wp2
  refine bodyPost_ret (v := IV wd ht (.slice (some ⟨g', 0, none⟩) L.length L.length)) (results_iv (B := w.heap.size) Try.results24 rfl Hres.out) rfl ⟨g', rfl, by omega, ?_, Hbel.out.trans ((below_set3 _ _ _).mono (Nat.le_refl _))⟩
  exact HP.out.same (((Below.heap_setCell _ _ _ _ (fun e => hgn e)).trans (Below.heap_setCell _ _ _ _ (fun e => hgn e))).trans (Below.heap_setCell _ _ _ _ (fun e => hgn e)))

end Go.Proofs.Ytajoipmchgabfaa

/- The contracts of package rect's functions that answer a bool, with the bool named. -/
namespace Go.Proofs.Ytajoipmchgabfaa
open Go.RowKit

theorem in_eq {b : Bool} (r s : Rc) (w : World) (h : inR r s = b) (hfr : Fit r) (hfs : Fit s) : Makes Try.prog 65 #[RV r, RV s] w (.bool b) := h ▸ in_any r s w hfr hfs
theorem empty_eq {b : Bool} (r : Rc) (w : World) (h : emptyR r = b) (hfr : Fit r) : Makes Try.prog 38 #[RV r] w (.bool b) := h ▸ empty_any r w hfr
theorem has_eq {b : Bool} (r : Rc) (x y : Int) (w : World) (h : hasR r x y = b) (hfr : Fit r) : Makes Try.prog 28 #[RV r, .int .i64 x, .int .i64 y] w (.bool b) := h ▸ has_any r x y w hfr
theorem good_eq {b : Bool} (r : Rc) (w : World) (h : goodR r = b) (hfr : Fit r) : Makes Try.prog 50 #[RV r] w (.bool b) := h ▸ good_any r w hfr
theorem shift_eq {s : Rc} (r : Rc) (x y : Int) (w : World) (h : shiftR r x y = s) (hfr : Fit r) : Makes Try.prog 37 #[RV r, .int .i64 x, .int .i64 y] w (RV s) := h ▸ shift_any r x y w hfr

theorem Lies.rules {W : World} {B : Nat} {r : Rc} (h : Lies W B r) : (∀ n : After W, n.world.cell? ⟨B, 0, none⟩ = some (.int .i64 r.x)) ∧ (∀ n : After W, n.world.cell? ⟨B, 1, none⟩ = some (.int .i64 r.y)) ∧ (∀ n : After W, n.world.cell? ⟨B, 2, none⟩ = some (.int .i64 r.a)) ∧ (∀ n : After W, n.world.cell? ⟨B, 3, none⟩ = some (.int .i64 r.b)) :=
  ⟨After.rule h.c0, After.rule h.c1, After.rule h.c2, After.rule h.c3⟩

/-- The cells of a rectangle that is boxed. -/
abbrev RO (r : Rc) : Obj := .cells #[.int .i64 r.x, .int .i64 r.y, .int .i64 r.a, .int .i64 r.b] 38

end Go.Proofs.Ytajoipmchgabfaa

/- pixbuf's allIn, Part, At. -/
namespace Go.Proofs.Ytajoipmchgabfaa
open Go.RowKit

/-- A picture and a number, as results: the picture read out of its cells. -/
theorem results_iv2 {fn : Func} {p u : Tmp} {tmps : Array Value} {w : World} {B : Nat} {wd ht : Int} {sv v : Value} (h : fn.results = #[.cell p 24, .tmp u]) (hp : tmps.getD p undef = .pointer (some ⟨B, 0, none⟩)) (hu : tmps.getD u undef = v) (hl : w.heap[B]? = some (.cells #[.int .i64 wd, .int .i64 ht, sv] 24)) :
    (results fn tmps).run Try.prog w = .ok (.tuple #[IV wd ht sv, v]) w := by
  have hp' : tmps[p]?.getD undef = .pointer (some ⟨B, 0, none⟩) := by simpa using hp
  have hu' : tmps[u]?.getD undef = v := by simpa using hu
  have c0 : w.cell? ⟨B, 0, none⟩ = some (.int .i64 wd) := by simp [World.cell?, hl]
  have c1 : w.cell? ⟨B, 1, none⟩ = some (.int .i64 ht) := by simp [World.cell?, hl]
  have c2 : w.cell? ⟨B, 2, none⟩ = some sv := by simp [World.cell?, hl]
  simp [results, h, hp', hu', go_sem, c0, c1, c2]

/-- Has it pixels, and a picture them all? -/
def allInB (r : Rc) (wd ht : Int) : Bool := !emptyR r && inR r ⟨0, 0, wd, ht⟩

set_option maxHeartbeats 1000000 in
theorem allIn_any (r : Rc) (wd ht : Nat) (sv : Value) (w : World) (hf : Fit r) : Makes Try.prog 40 #[RV r, IV wd ht sv] w (.bool (allInB r wd ht)) := by
  unfold Makes
  have hfw : Fit ⟨0, 0, (wd : Int), (ht : Int)⟩ := ⟨show (0 : Int) ≤ 9223372036854775807 by decide, show (0 : Int) ≤ 9223372036854775807 by decide⟩
  obtain ⟨IN, hIN⟩ : ∃ b, inR r ⟨0, 0, (wd : Int), (ht : Int)⟩ = b := ⟨_, rfl⟩
  cases he : emptyR r
  all_goals
    have Hres := Lib.hid (show allInB r wd ht = (!emptyR r && IN) by rw [allInB, hIN])
    have hgB := heap_pushed [.cells #[.int .i64 r.x, .int .i64 r.y, .int .i64 r.a, .int .i64 r.b] 38, .cells #[.int .i64 (wd : Int), .int .i64 (ht : Int), sv] 24] w
    simp only [List.foldl_cons, List.foldl_nil] at hgB
    have bi : Im3 ((w.alloc (.cells #[.int .i64 r.x, .int .i64 r.y, .int .i64 r.a, .int .i64 r.b] 38)).alloc (.cells #[.int .i64 (wd : Int), .int .i64 (ht : Int), sv] 24)) (w.heap.size + 1) wd ht sv := (hgB 1 _).2 rfl
    have lr : Lies ((w.alloc (.cells #[.int .i64 r.x, .int .i64 r.y, .int .i64 r.a, .int .i64 r.b] 38)).alloc (.cells #[.int .i64 (wd : Int), .int .i64 (ht : Int), sv] 24)) w.heap.size r := (Lies.new rfl).later (Below.al1 _ _)
    have hal := Below.al2 w (.cells #[.int .i64 r.x, .int .i64 r.y, .int .i64 r.a, .int .i64 r.b] 38) (.cells #[.int .i64 (wd : Int), .int .i64 (ht : Int), sv] 24)
    have Hal := Lib.hid hal
    clear hgB hal
    go_enter Try.func40, Try.ntmps40
    go_upto_region 1 with (fail)
    generalize ((w.alloc (.cells #[.int .i64 r.x, .int .i64 r.y, .int .i64 r.a, .int .i64 r.b] 38)).alloc (.cells #[.int .i64 (wd : Int), .int .i64 (ht : Int), sv] 24)) = W at *
    have hne := After.ne W
    obtain ⟨l0, l1, l2, l3⟩ := lr.rules
    have k0 := After.rule bi.cells.1
    have k1 := After.rule bi.cells.2.1
    have k2 := After.rule bi.cells.2.2
    have He := Lib.hid he
    have HIN := Lib.hid hIN
    clear lr bi he hIN
    refine wp_region_after (by kernel_rfl) (by kernel_rfl) ?_
    repeat (go_big_quiet_step (first | (go_at_call 38; exact Makes.after (empty_eq r _ He.out hf)) | (go_at_call 31; exact Makes.after (whole_any _ _ _ _)) | (go_at_call 65; exact Makes.after (in_eq r _ _ HIN.out hf hfw))))
    refine wpQuiet_nil ?_
    rintro _ ⟨nq, rfl⟩
    have Hn := Lib.hid nq.below
    go_wp2
    go_ret
    exact ⟨ret_bool (by rw [Hres.out, He.out]; simp), Hal.out.trans (Hn.out.mono Hal.out.size)⟩

/-- A rectangle that is all in the picture: natural numbers. -/
theorem allInB_true {r : Rc} {wd ht : Nat} (h : allInB r wd ht = true) : ∃ px py aw ah : Nat, r = ⟨px, py, aw, ah⟩ ∧ 1 ≤ aw ∧ 1 ≤ ah ∧ px + aw ≤ wd ∧ py + ah ≤ ht := by
  simp only [allInB, Bool.and_eq_true, Bool.not_eq_true'] at h
  have h1 := emptyR_false.1 h.1
  rcases in_iff.1 h.2 with h2 | ⟨-, -, h3, h4, h5, h6⟩
  · rw [h.1] at h2; cases h2
  · simp only at h3 h4 h5 h6
    refine ⟨r.x.toNat, r.y.toNat, r.a.toNat, r.b.toNat, ?_, by omega, by omega, by omega, by omega⟩
    obtain ⟨rx, ry, ra, rb⟩ := r
    simp only at h1 h3 h4 h5 h6
    simp only [Rc.mk.injEq]
    omega

/-- What both ways of Part begin with. -/
theorem allIn_eq {t : Bool} (r : Rc) (wd ht : Nat) (sv : Value) (w : World) (h : allInB r wd ht = t) (hf : Fit r) : Makes Try.prog 40 #[RV r, IV wd ht sv] w (.bool t) := h ▸ allIn_any r wd ht sv w hf

set_option maxHeartbeats 2000000 in
theorem part_no (B wd ht g : Nat) (L : List Int) (r : Rc) (w : World) (h : BufAt w B wd ht g L) (hf : Fit r) (hno : allInB r wd ht = false) :
    Makes Try.prog 21 #[.pointer (some ⟨B, 0, none⟩), RV r] w (.tuple #[IV 0 0 (.slice none 0 0), .int .i64 5]) := by
  unfold Makes
  have hgB := heap_pushed [.cells #[.int .i64 r.x, .int .i64 r.y, .int .i64 r.a, .int .i64 r.b] 38, .cells #[.int .i64 0, .int .i64 0, .slice none 0 0] 24] w
  simp only [List.foldl_cons, List.foldl_nil] at hgB
  have hal := Below.al2 w (.cells #[.int .i64 r.x, .int .i64 r.y, .int .i64 r.a, .int .i64 r.b] 38) (.cells #[.int .i64 0, .int .i64 0, .slice none 0 0] 24)
  have br : Im3 ((w.alloc (.cells #[.int .i64 r.x, .int .i64 r.y, .int .i64 r.a, .int .i64 r.b] 38)).alloc (.cells #[.int .i64 0, .int .i64 0, .slice none 0 0] 24)) (w.heap.size + 1) 0 0 (.slice none 0 0) := (hgB 1 _).2 rfl
  have lr : Lies ((w.alloc (.cells #[.int .i64 r.x, .int .i64 r.y, .int .i64 r.a, .int .i64 r.b] 38)).alloc (.cells #[.int .i64 0, .int .i64 0, .slice none 0 0] 24)) w.heap.size r := (Lies.new rfl).later (Below.al1 _ _)
  have h0 := h.later hal
  have Hal := Lib.hid hal
  clear hgB hal h
  go_enter Try.func21, Try.ntmps21
  go_upto_region 3 with (fail)
  generalize ((w.alloc (.cells #[.int .i64 r.x, .int .i64 r.y, .int .i64 r.a, .int .i64 r.b] 38)).alloc (.cells #[.int .i64 0, .int .i64 0, .slice none 0 0] 24)) = W at *
  have hne := After.ne W
  obtain ⟨l0, l1, l2, l3⟩ := lr.rules
  have k0 := After.rule h0.three.1
  have k1 := After.rule h0.three.2.1
  have k2 := After.rule h0.three.2.2
  have Hno := Lib.hid hno
  have Hbr := Lib.hid br
  clear lr h0 hno br
  refine wp_region_after (by kernel_rfl) (by kernel_rfl) ?_
  repeat (go_big_quiet_step ((go_at_call 40; exact Makes.after (allIn_eq r wd ht _ _ Hno.out hf))))
  refine wpQuiet_nil ?_
  rintro _ ⟨nq, rfl⟩
  have br2 := Hbr.out.later nq.below
  obtain ⟨d0, d1, d2⟩ := br2.cells
  have f0 := br2.free 0
  have f1 := br2.free 1
  have f2 := br2.free 2
  have Hres := Lib.hid (br2.set 0 0 (.slice none 0 0))
  have Hbel := Lib.hid (Hal.out.trans (nq.below.mono Hal.out.size))
  clear l0 l1 l2 l3 k0 k1 k2 hne br2
  go_wp2
  exact bodyPost_ret (v := .tuple #[IV 0 0 (.slice none 0 0), .int .i64 5]) (results_iv2 (B := w.heap.size + 1) Try.results21 rfl rfl Hres.out) rfl ⟨rfl, Hbel.out.trans ((below_set3 _ _ _).mono (by omega))⟩

set_option maxHeartbeats 2000000 in
theorem part_yes (B wd ht g px py aw ah : Nat) (L : List Int) (w : World) (h : BufAt w B wd ht g L) (ha : 1 ≤ aw) (hh : 1 ≤ ah) (h1 : px + aw ≤ wd) (h2 : py + ah ≤ ht) :
    Calls Try.prog 21 #[.pointer (some ⟨B, 0, none⟩), RV ⟨px, py, aw, ah⟩] w fun e w' => ∃ g', e = .returned (.tuple #[IV aw ah (.slice (some ⟨g', 0, none⟩) (aw * ah) (aw * ah)), .int .i64 0]) ∧ w.heap.size ≤ g' ∧ Pix w' g' (cutL wd px py aw ah L) ∧ Below w.heap.size w w' := by
  have hw := h.wd1
  have hht := h.ht1
  have hlen := h.len
  have hf : Fit ⟨px, py, aw, ah⟩ := ⟨show (px : Int) ≤ 9223372036854775807 by omega, show (py : Int) ≤ 9223372036854775807 by omega⟩
  have hyes : allInB ⟨px, py, aw, ah⟩ wd ht = true := by
    have he : emptyR ⟨px, py, aw, ah⟩ = false := emptyR_false.2 (by simp only; omega)
    have he2 : emptyR ⟨0, 0, (wd : Int), (ht : Int)⟩ = false := emptyR_false.2 (by simp only; omega)
    rw [allInB, he, in_iff.2 (.inr ⟨he, he2, by simp only; omega, by simp only; omega, by simp only; omega, by simp only; omega⟩)]; rfl
  have hfit := h.fit h1 h2
  have hgB := heap_pushed [.cells #[.int .i64 (px : Int), .int .i64 (py : Int), .int .i64 (aw : Int), .int .i64 (ah : Int)] 38, .cells #[.int .i64 0, .int .i64 0, .slice none 0 0] 24] w
  simp only [List.foldl_cons, List.foldl_nil] at hgB
  have hal := Below.al2 w (.cells #[.int .i64 (px : Int), .int .i64 (py : Int), .int .i64 (aw : Int), .int .i64 (ah : Int)] 38) (.cells #[.int .i64 0, .int .i64 0, .slice none 0 0] 24)
  have br : Im3 ((w.alloc (.cells #[.int .i64 (px : Int), .int .i64 (py : Int), .int .i64 (aw : Int), .int .i64 (ah : Int)] 38)).alloc (.cells #[.int .i64 0, .int .i64 0, .slice none 0 0] 24)) (w.heap.size + 1) 0 0 (.slice none 0 0) := (hgB 1 _).2 rfl
  have lr : Lies ((w.alloc (.cells #[.int .i64 (px : Int), .int .i64 (py : Int), .int .i64 (aw : Int), .int .i64 (ah : Int)] 38)).alloc (.cells #[.int .i64 0, .int .i64 0, .slice none 0 0] 24)) w.heap.size ⟨px, py, aw, ah⟩ := (Lies.new (r := ⟨px, py, aw, ah⟩) rfl).later (Below.al1 _ _)
  have h0 := h.later hal
  have Hal := Lib.hid hal
  have Hu := Lib.hid h.u
  clear hgB hal h
  go_enter Try.func21, Try.ntmps21
  go_upto_region 3 with (fail)
  generalize ((w.alloc (.cells #[.int .i64 (px : Int), .int .i64 (py : Int), .int .i64 (aw : Int), .int .i64 (ah : Int)] 38)).alloc (.cells #[.int .i64 0, .int .i64 0, .slice none 0 0] 24)) = W at *
  have hne := After.ne W
  obtain ⟨l0, l1, l2, l3⟩ := lr.rules
  have k0 := After.rule h0.three.1
  have k1 := After.rule h0.three.2.1
  have k2 := After.rule h0.three.2.2
  have Hyes := Lib.hid hyes
  have Hbr := Lib.hid br
  have Hlr := Lib.hid lr
  have H0 := Lib.hid h0
  clear lr h0 hyes br
  refine wp_region_after (by kernel_rfl) (by kernel_rfl) ?_
  repeat (go_big_quiet_step ((go_at_call 40; exact Makes.after (allIn_eq ⟨px, py, aw, ah⟩ wd ht _ _ Hyes.out hf))))
  refine wpQuiet_nil ?_
  rintro _ ⟨nq, rfl⟩
  have hbq := nq.below
  have br2 := Hbr.out.later hbq
  have lr2 := Hlr.out.later hbq
  have b2 := H0.out.later hbq
  have Hbel2 := Lib.hid (Hal.out.trans (hbq.mono Hal.out.size))
  clear l0 l1 l2 l3 k0 k1 k2 hne hbq
  generalize nq.world = W2 at *
  go_upto_region 5 with (fail)
  have hne := After.ne W2
  obtain ⟨l0, l1, l2, l3⟩ := lr2.rules
  have k0 := After.rule b2.three.1
  have k1 := After.rule b2.three.2.1
  have k2 := After.rule b2.three.2.2
  have Hbr2 := Lib.hid br2
  have Hb2 := Lib.hid b2
  clear br2 lr2 b2
  refine wp_region_head 5 (by kernel_rfl) (by kernel_rfl) (by kernel_rfl) ?_
  repeat (refine Lq_step (fun K hK => ?_); go_simp; first | (refine hK _ ?_; clear hK K) | (apply Exists.intro; refine ⟨fun n => ?_, hK _ ?_⟩; fail))
  refine Lq_nil ?_
  intro w3 hb3
  clear l0 l1 l2 l3 k0 k1 k2 hne
  have b3 := Hb2.out.later hb3
  have hco := cutOut_any wd ht px py aw ah g 0 L.length L.length L w3 b3.pix.row rfl (Nat.le_refl _) (by omega) Hu.out.u32 (by omega) (by omega) (by omega) (by omega) (by omega) hfit
  have Hb03 := Lib.hid (Hbel2.out.trans (hb3.mono Hbel2.out.size))
  have Hbr3 := Lib.hid (Hbr2.out.later hb3)
  clear hb3 b3
  go_wp2_with fail
  refine Calls.mono hco ?_
  rintro e w4 ⟨g', rfl, hg, hP, hb4⟩
  have br4 := Hbr3.out.later hb4
  have hlt3 := Hbr3.out.lt
  obtain ⟨d0, d1, d2⟩ := br4.cells
  have f0 := br4.free 0
  have f1 := br4.free 1
  have f2 := br4.free 2
  have Hres := Lib.hid (br4.set aw ah (.slice (some ⟨g', 0, none⟩) (aw * ah) (aw * ah)))
  have HP := Lib.hid hP
  have Hbel := Lib.hid (Hb03.out.trans (hb4.mono Hb03.out.size))
  have hgn : g' ≠ w.heap.size + 1 := by omega
  have hgs := Hb03.out.size
  clear hco hP hb4 br4
  go_wp2
  refine bodyPost_ret (v := .tuple #[IV aw ah (.slice (some ⟨g', 0, none⟩) (aw * ah) (aw * ah)), .int .i64 0]) (results_iv2 (B := w.heap.size + 1) Try.results21 rfl rfl Hres.out) rfl ⟨g', rfl, by omega, ?_, Hbel.out.trans ((below_set3 _ _ _).mono (by omega))⟩
  exact HP.out.same (((Below.heap_setCell _ _ _ _ (fun e => hgn e)).trans (Below.heap_setCell _ _ _ _ (fun e => hgn e))).trans (Below.heap_setCell _ _ _ _ (fun e => hgn e)))

end Go.Proofs.Ytajoipmchgabfaa
