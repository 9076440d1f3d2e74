/- Several texts in one, each with its own head. -/
import Derived.Test.YtpddkhhdleknnaaY12
import Derived.Test.YtpddkhhdleknnaaY13
/- pixbuf's allIn, Part, At. -/
namespace Go.Proofs.Ytpddkhhdleknnaa
open Go.RowKit

/-- A picture and a number, as results: the picture read out of its cells. -/
theorem results_iv2 {fn : Func} {p u : Tmp} {tmps : Array Value} {w : World} {B : Nat} {wd ht : Int} {sv v : Value} (h : fn.results = #[.cell p 39, .tmp u]) (hp : tmps.getD p undef = .pointer (some ⟨B, 0, none⟩)) (hu : tmps.getD u undef = v) (hl : w.heap[B]? = some (.cells #[.int .i64 wd, .int .i64 ht, sv] 39)) :
    (results fn tmps).run Try.prog w = .ok (.tuple #[IV wd ht sv, v]) w := by
  have hp' : tmps[p]?.getD undef = .pointer (some ⟨B, 0, none⟩) := by simpa using hp
  have hu' : tmps[u]?.getD undef = v := by simpa using hu
  have c0 : w.cell? ⟨B, 0, none⟩ = some (.int .i64 wd) := by simp [World.cell?, hl]
  have c1 : w.cell? ⟨B, 1, none⟩ = some (.int .i64 ht) := by simp [World.cell?, hl]
  have c2 : w.cell? ⟨B, 2, none⟩ = some sv := by simp [World.cell?, hl]
  simp [results, h, hp', hu', go_sem, c0, c1, c2]

/-- Has it pixels, and a picture them all? -/
def allInB (r : Rc) (wd ht : Int) : Bool := !emptyR r && inR r ⟨0, 0, wd, ht⟩

set_option maxHeartbeats 1000000 in
theorem allIn_any (r : Rc) (wd ht : Nat) (sv : Value) (w : World) (hf : Fit r) : Makes Try.prog 87 #[RV r, IV wd ht sv] w (.bool (allInB r wd ht)) := by
  unfold Makes
  have hfw : Fit ⟨0, 0, (wd : Int), (ht : Int)⟩ := ⟨show (0 : Int) ≤ 9223372036854775807 by decide, show (0 : Int) ≤ 9223372036854775807 by decide⟩
  obtain ⟨IN, hIN⟩ : ∃ b, inR r ⟨0, 0, (wd : Int), (ht : Int)⟩ = b := ⟨_, rfl⟩
  cases he : emptyR r
  all_goals
    have Hres := Lib.hid (show allInB r wd ht = (!emptyR r && IN) by rw [allInB, hIN])
    have hgB := heap_pushed [.cells #[.int .i64 r.x, .int .i64 r.y, .int .i64 r.a, .int .i64 r.b] 30, .cells #[.int .i64 (wd : Int), .int .i64 (ht : Int), sv] 39] w
    simp only [List.foldl_cons, List.foldl_nil] at hgB
    have bi : Im3 ((w.alloc (.cells #[.int .i64 r.x, .int .i64 r.y, .int .i64 r.a, .int .i64 r.b] 30)).alloc (.cells #[.int .i64 (wd : Int), .int .i64 (ht : Int), sv] 39)) (w.heap.size + 1) wd ht sv := (hgB 1 _).2 rfl
    have lr : Lies ((w.alloc (.cells #[.int .i64 r.x, .int .i64 r.y, .int .i64 r.a, .int .i64 r.b] 30)).alloc (.cells #[.int .i64 (wd : Int), .int .i64 (ht : Int), sv] 39)) w.heap.size r := (Lies.new rfl).later (Below.al1 _ _)
    have hal := Below.al2 w (.cells #[.int .i64 r.x, .int .i64 r.y, .int .i64 r.a, .int .i64 r.b] 30) (.cells #[.int .i64 (wd : Int), .int .i64 (ht : Int), sv] 39)
    have Hal := Lib.hid hal
    clear hgB hal
    go_enter Try.func87, Try.ntmps87
    go_upto_region 1 with (fail)
    generalize ((w.alloc (.cells #[.int .i64 r.x, .int .i64 r.y, .int .i64 r.a, .int .i64 r.b] 30)).alloc (.cells #[.int .i64 (wd : Int), .int .i64 (ht : Int), sv] 39)) = W at *
    have hne := After.ne W
    obtain ⟨l0, l1, l2, l3⟩ := lr.rules
    have k0 := After.rule bi.cells.1
    have k1 := After.rule bi.cells.2.1
    have k2 := After.rule bi.cells.2.2
    have He := Lib.hid he
    have HIN := Lib.hid hIN
    clear lr bi he hIN
    refine wp_region_after (by kernel_rfl) (by kernel_rfl) ?_
    repeat (go_big_quiet_step (first | (go_at_call 64; exact Makes.after (empty_eq r _ He.out hf)) | (go_at_call 81; exact Makes.after (whole_any _ _ _ _)) | (go_at_call 54; exact Makes.after (in_eq r _ _ HIN.out hf hfw))))
    refine wpQuiet_nil ?_
    rintro _ ⟨nq, rfl⟩
    have Hn := Lib.hid nq.below
    go_wp2
    go_ret
    exact ⟨ret_bool (by rw [Hres.out, He.out]; simp), Hal.out.trans (Hn.out.mono Hal.out.size)⟩

/-- A rectangle that is all in the picture: natural numbers. -/
theorem allInB_true {r : Rc} {wd ht : Nat} (h : allInB r wd ht = true) : ∃ px py aw ah : Nat, r = ⟨px, py, aw, ah⟩ ∧ 1 ≤ aw ∧ 1 ≤ ah ∧ px + aw ≤ wd ∧ py + ah ≤ ht := by
  simp only [allInB, Bool.and_eq_true, Bool.not_eq_true'] at h
  have h1 := emptyR_false.1 h.1
  rcases in_iff.1 h.2 with h2 | ⟨-, -, h3, h4, h5, h6⟩
  · rw [h.1] at h2; cases h2
  · simp only at h3 h4 h5 h6
    refine ⟨r.x.toNat, r.y.toNat, r.a.toNat, r.b.toNat, ?_, by omega, by omega, by omega, by omega⟩
    obtain ⟨rx, ry, ra, rb⟩ := r
    simp only at h1 h3 h4 h5 h6
    simp only [Rc.mk.injEq]
    omega

/-- What both ways of Part begin with. -/
theorem allIn_eq {t : Bool} (r : Rc) (wd ht : Nat) (sv : Value) (w : World) (h : allInB r wd ht = t) (hf : Fit r) : Makes Try.prog 87 #[RV r, IV wd ht sv] w (.bool t) := h ▸ allIn_any r wd ht sv w hf

set_option maxHeartbeats 2000000 in
theorem part_no (B wd ht g : Nat) (L : List Int) (r : Rc) (w : World) (h : BufAt w B wd ht g L) (hf : Fit r) (hno : allInB r wd ht = false) :
    Makes Try.prog 42 #[.pointer (some ⟨B, 0, none⟩), RV r] w (.tuple #[IV 0 0 (.slice none 0 0), .int .i64 5]) := by
  unfold Makes
  have hgB := heap_pushed [.cells #[.int .i64 r.x, .int .i64 r.y, .int .i64 r.a, .int .i64 r.b] 30, .cells #[.int .i64 0, .int .i64 0, .slice none 0 0] 39] w
  simp only [List.foldl_cons, List.foldl_nil] at hgB
  have hal := Below.al2 w (.cells #[.int .i64 r.x, .int .i64 r.y, .int .i64 r.a, .int .i64 r.b] 30) (.cells #[.int .i64 0, .int .i64 0, .slice none 0 0] 39)
  have br : Im3 ((w.alloc (.cells #[.int .i64 r.x, .int .i64 r.y, .int .i64 r.a, .int .i64 r.b] 30)).alloc (.cells #[.int .i64 0, .int .i64 0, .slice none 0 0] 39)) (w.heap.size + 1) 0 0 (.slice none 0 0) := (hgB 1 _).2 rfl
  have lr : Lies ((w.alloc (.cells #[.int .i64 r.x, .int .i64 r.y, .int .i64 r.a, .int .i64 r.b] 30)).alloc (.cells #[.int .i64 0, .int .i64 0, .slice none 0 0] 39)) w.heap.size r := (Lies.new rfl).later (Below.al1 _ _)
  have h0 := h.later hal
  have Hal := Lib.hid hal
  clear hgB hal h
  go_enter Try.func42, Try.ntmps42
  go_upto_region 3 with (fail)
  generalize ((w.alloc (.cells #[.int .i64 r.x, .int .i64 r.y, .int .i64 r.a, .int .i64 r.b] 30)).alloc (.cells #[.int .i64 0, .int .i64 0, .slice none 0 0] 39)) = W at *
  have hne := After.ne W
  obtain ⟨l0, l1, l2, l3⟩ := lr.rules
  have k0 := After.rule h0.three.1
  have k1 := After.rule h0.three.2.1
  have k2 := After.rule h0.three.2.2
  have Hno := Lib.hid hno
  have Hbr := Lib.hid br
  clear lr h0 hno br
  refine wp_region_after (by kernel_rfl) (by kernel_rfl) ?_
  repeat (go_big_quiet_step ((go_at_call 87; exact Makes.after (allIn_eq r wd ht _ _ Hno.out hf))))
  refine wpQuiet_nil ?_
  rintro _ ⟨nq, rfl⟩
  have br2 := Hbr.out.later nq.below
  obtain ⟨d0, d1, d2⟩ := br2.cells
  have f0 := br2.free 0
  have f1 := br2.free 1
  have f2 := br2.free 2
  have Hres := Lib.hid (br2.set 0 0 (.slice none 0 0))
  have Hbel := Lib.hid (Hal.out.trans (nq.below.mono Hal.out.size))
  clear l0 l1 l2 l3 k0 k1 k2 hne br2
  go_wp2
  exact bodyPost_ret (v := .tuple #[IV 0 0 (.slice none 0 0), .int .i64 5]) (results_iv2 (B := w.heap.size + 1) Try.results42 rfl rfl Hres.out) rfl ⟨rfl, Hbel.out.trans ((below_set3 _ _ _).mono (by omega))⟩

set_option maxHeartbeats 2000000 in
theorem part_yes (B wd ht g px py aw ah : Nat) (L : List Int) (w : World) (h : BufAt w B wd ht g L) (ha : 1 ≤ aw) (hh : 1 ≤ ah) (h1 : px + aw ≤ wd) (h2 : py + ah ≤ ht) :
    Calls Try.prog 42 #[.pointer (some ⟨B, 0, none⟩), RV ⟨px, py, aw, ah⟩] w fun e w' => ∃ g', e = .returned (.tuple #[IV aw ah (.slice (some ⟨g', 0, none⟩) (aw * ah) (aw * ah)), .int .i64 0]) ∧ w.heap.size ≤ g' ∧ Pix w' g' (cutL wd px py aw ah L) ∧ Below w.heap.size w w' := by
  have hw := h.wd1
  have hht := h.ht1
  have hlen := h.len
  have hf : Fit ⟨px, py, aw, ah⟩ := ⟨show (px : Int) ≤ 9223372036854775807 by omega, show (py : Int) ≤ 9223372036854775807 by omega⟩
  have hyes : allInB ⟨px, py, aw, ah⟩ wd ht = true := by
    have he : emptyR ⟨px, py, aw, ah⟩ = false := emptyR_false.2 (by simp only; omega)
    have he2 : emptyR ⟨0, 0, (wd : Int), (ht : Int)⟩ = false := emptyR_false.2 (by simp only; omega)
    rw [allInB, he, in_iff.2 (.inr ⟨he, he2, by simp only; omega, by simp only; omega, by simp only; omega, by simp only; omega⟩)]; rfl
  have hfit := h.fit h1 h2
  have hgB := heap_pushed [.cells #[.int .i64 (px : Int), .int .i64 (py : Int), .int .i64 (aw : Int), .int .i64 (ah : Int)] 30, .cells #[.int .i64 0, .int .i64 0, .slice none 0 0] 39] w
  simp only [List.foldl_cons, List.foldl_nil] at hgB
  have hal := Below.al2 w (.cells #[.int .i64 (px : Int), .int .i64 (py : Int), .int .i64 (aw : Int), .int .i64 (ah : Int)] 30) (.cells #[.int .i64 0, .int .i64 0, .slice none 0 0] 39)
  have br : Im3 ((w.alloc (.cells #[.int .i64 (px : Int), .int .i64 (py : Int), .int .i64 (aw : Int), .int .i64 (ah : Int)] 30)).alloc (.cells #[.int .i64 0, .int .i64 0, .slice none 0 0] 39)) (w.heap.size + 1) 0 0 (.slice none 0 0) := (hgB 1 _).2 rfl
  have lr : Lies ((w.alloc (.cells #[.int .i64 (px : Int), .int .i64 (py : Int), .int .i64 (aw : Int), .int .i64 (ah : Int)] 30)).alloc (.cells #[.int .i64 0, .int .i64 0, .slice none 0 0] 39)) w.heap.size ⟨px, py, aw, ah⟩ := (Lies.new (r := ⟨px, py, aw, ah⟩) rfl).later (Below.al1 _ _)
  have h0 := h.later hal
  have Hal := Lib.hid hal
  have Hu := Lib.hid h.u
  clear hgB hal h
  go_enter Try.func42, Try.ntmps42
  go_upto_region 3 with (fail)
  generalize ((w.alloc (.cells #[.int .i64 (px : Int), .int .i64 (py : Int), .int .i64 (aw : Int), .int .i64 (ah : Int)] 30)).alloc (.cells #[.int .i64 0, .int .i64 0, .slice none 0 0] 39)) = W at *
  have hne := After.ne W
  obtain ⟨l0, l1, l2, l3⟩ := lr.rules
  have k0 := After.rule h0.three.1
  have k1 := After.rule h0.three.2.1
  have k2 := After.rule h0.three.2.2
  have Hyes := Lib.hid hyes
  have Hbr := Lib.hid br
  have Hlr := Lib.hid lr
  have H0 := Lib.hid h0
  clear lr h0 hyes br
  refine wp_region_after (by kernel_rfl) (by kernel_rfl) ?_
  repeat (go_big_quiet_step ((go_at_call 87; exact Makes.after (allIn_eq ⟨px, py, aw, ah⟩ wd ht _ _ Hyes.out hf))))
  refine wpQuiet_nil ?_
  rintro _ ⟨nq, rfl⟩
  have hbq := nq.below
  have br2 := Hbr.out.later hbq
  have lr2 := Hlr.out.later hbq
  have b2 := H0.out.later hbq
  have Hbel2 := Lib.hid (Hal.out.trans (hbq.mono Hal.out.size))
  clear l0 l1 l2 l3 k0 k1 k2 hne hbq
  generalize nq.world = W2 at *
  go_upto_region 5 with (fail)
  have hne := After.ne W2
  obtain ⟨l0, l1, l2, l3⟩ := lr2.rules
  have k0 := After.rule b2.three.1
  have k1 := After.rule b2.three.2.1
  have k2 := After.rule b2.three.2.2
  have Hbr2 := Lib.hid br2
  have Hb2 := Lib.hid b2
  clear br2 lr2 b2
  refine wp_region_head 5 (by kernel_rfl) (by kernel_rfl) (by kernel_rfl) ?_
  repeat (refine Lq_step (fun K hK => ?_); go_simp; first | (refine hK _ ?_; clear hK K) | (apply Exists.intro; refine ⟨fun n => ?_, hK _ ?_⟩; fail))
  refine Lq_nil ?_
  intro w3 hb3
  clear l0 l1 l2 l3 k0 k1 k2 hne
  have b3 := Hb2.out.later hb3
  have hco := cutOut_any wd ht px py aw ah g 0 L.length L.length L w3 b3.pix.row rfl (Nat.le_refl _) (by omega) Hu.out.u32 (by omega) (by omega) (by omega) (by omega) (by omega) hfit
  have Hb03 := Lib.hid (Hbel2.out.trans (hb3.mono Hbel2.out.size))
  have Hbr3 := Lib.hid (Hbr2.out.later hb3)
  clear hb3 b3
  go_wp2_with fail
  refine Calls.mono hco ?_
  rintro e w4 ⟨g', rfl, hg, hP, hb4⟩
  have br4 := Hbr3.out.later hb4
  have hlt3 := Hbr3.out.lt
  obtain ⟨d0, d1, d2⟩ := br4.cells
  have f0 := br4.free 0
  have f1 := br4.free 1
  have f2 := br4.free 2
  have Hres := Lib.hid (br4.set aw ah (.slice (some ⟨g', 0, none⟩) (aw * ah) (aw * ah)))
  have HP := Lib.hid hP
  have Hbel := Lib.hid (Hb03.out.trans (hb4.mono Hb03.out.size))
  have hgn : g' ≠ w.heap.size + 1 := by omega
  have hgs := Hb03.out.size
  clear hco hP hb4 br4
  go_wp2
  refine bodyPost_ret (v := .tuple #[IV aw ah (.slice (some ⟨g', 0, none⟩) (aw * ah) (aw * ah)), .int .i64 0]) (results_iv2 (B := w.heap.size + 1) Try.results42 rfl rfl Hres.out) rfl ⟨g', rfl, by omega, ?_, Hbel.out.trans ((below_set3 _ _ _).mono (by omega))⟩
  exact HP.out.same (((Below.heap_setCell _ _ _ _ (fun e => hgn e)).trans (Below.heap_setCell _ _ _ _ (fun e => hgn e))).trans (Below.heap_setCell _ _ _ _ (fun e => hgn e)))

end Go.Proofs.Ytpddkhhdleknnaa

/- pixbuf's At, Same. -/
namespace Go.Proofs.Ytpddkhhdleknnaa
open Go.RowKit

set_option maxHeartbeats 1000000 in
theorem at_in (B wd ht g x y : Nat) (L : List Int) (w : World) (h : BufAt w B wd ht g L) (hx : x < wd) (hy : y < ht) (hi : y * wd + x < L.length) :
    Makes Try.prog 44 #[.pointer (some ⟨B, 0, none⟩), .int .i64 (x : Int), .int .i64 (y : Int)] w (.tuple #[.int .u32 L[y * wd + x], .int .i64 0]) := by
  unfold Makes
  have hw := h.wd1
  have hht := h.ht1
  have hlen := h.len
  have hhas : hasR ⟨0, 0, (wd : Int), (ht : Int)⟩ x y = true := has_iff.2 ⟨emptyR_false.2 (by simp only; omega), by simp only; omega, by simp only; omega⟩
  have hf : Fit ⟨0, 0, (wd : Int), (ht : Int)⟩ := ⟨show (0 : Int) ≤ 9223372036854775807 by decide, show (0 : Int) ≤ 9223372036854775807 by decide⟩
  obtain ⟨q, hq⟩ : ∃ q, y * wd = q := ⟨_, rfl⟩
  obtain ⟨i, hii⟩ : ∃ i, q + x = i := ⟨_, rfl⟩
  obtain ⟨V, hV⟩ : ∃ V, L[y * wd + x] = V := ⟨_, rfl⟩
  have hcell : w.cell? ⟨g, i, none⟩ = some (.int .u32 V) := by
    have := h.pix.cell hi
    rw [hV] at this
    rw [← hii, ← hq]; exact this
  have hil : i < L.length := by rw [← hii, ← hq]; exact hi
  have z1 : IntKind.i64.wrap ((y : Int) * (wd : Int)) = (q : Int) := by rw [← Int.natCast_mul, hq]; exact IntWalk.i64_in _ (by omega)
  have z2 : IntKind.i64.wrap ((q : Int) + (x : Int)) = (i : Int) := by rw [← Int.natCast_add, hii]; exact IntWalk.i64_in _ (by omega)
  rw [hV]
  obtain ⟨c0, c1, c2⟩ := h.three
  have Hh := Lib.hid h
  have Hhas := Lib.hid hhas
  clear h hhas hq hii hV hi
  go_enter Try.func44, Try.ntmps44
  go_wp2_with fail
  refine Calls.mono (whole_any _ _ _ _) ?_
  rintro e w1 ⟨rfl, hb1⟩
  go_wp2_with fail
  refine Calls.mono (has_eq _ x y _ Hhas.out hf) ?_
  rintro e w2 ⟨rfl, hb2⟩
  have hb := Below.thn hb1 hb2
  have d0 := cell_later hb c0
  have d1 := cell_later hb c1
  have d2 := cell_later hb c2
  have d3 := cell_later hb hcell
  have Hb := Lib.hid hb
  clear c0 c1 c2 hcell hb1 hb2 hb
  go_wp2
  go_quiet (fail)
  go_wp2
  go_ret2
  exact ⟨rfl, Below.drewN' Hb.out _⟩

/-- Two rows of numbers held against each other. -/
def eqL : List Int → List Int → Bool
  | [], [] => true
  | a :: l, b :: m => a == b && eqL l m
  | _, _ => false
theorem eqL_iff {l m : List Int} : eqL l m = true ↔ l = m := by
  induction l generalizing m with
  | nil => cases m <;> simp [eqL]
  | cons a l ih =>
    cases m with
    | nil => simp [eqL]
    | cons b m => simp [eqL, ih]
theorem eqL_at {l m : List Int} {k : Nat} (h1 : k < l.length) (h2 : k < m.length) : eqL (l.drop k) (m.drop k) = (l[k] == m[k] && eqL (l.drop (k + 1)) (m.drop (k + 1))) := by
  rw [List.drop_eq_getElem_cons h1, List.drop_eq_getElem_cons h2]; rfl

set_option maxHeartbeats 1000000 in
theorem equal_any (g g' : Nat) (L M : List Int) (w : World) (hL : Pix w g L) (hM : Pix w g' M) (hl : L.length = M.length) (hm : L.length ≤ 1048576) :
    Makes Try.prog 96 #[.slice (some ⟨g, 0, none⟩) L.length L.length, .slice (some ⟨g', 0, none⟩) M.length M.length] w (.bool (eqL L M)) := by
  unfold Makes
  have hne : ((L.length : Int) != (M.length : Int)) = false := by simp [hl]
  have Hl := Lib.hid hl
  clear hl
  go_enter Try.func96, Try.ntmps96
  go_wp2
  go_loopw [13] (fun i wr => ∃ k : Nat, k ≤ L.length ∧ i = .int .i64 k ∧ Below w.heap.size w wr ∧ Hid (eqL L M = eqL (L.drop k) (M.drop k))) (fun i _ => L.length - (intOf i).toNat)
  case atStart => exact ⟨0, by omega, rfl, Below.refl _ _, Lib.hid rfl⟩
  case round =>
    obtain ⟨k, hk, rfl, hb, he⟩ := hrel
    by_cases hlt : k < L.length
    · have hlt2 : k < M.length := by rw [← Hl.out]; exact hlt
      have c0 := (hL.later hb).cell hlt
      have c1 := (hM.later hb).cell hlt2
      have Hat := Lib.hid (eqL_at hlt hlt2)
      generalize L[k] = a at *
      generalize M[k] = b at *
      go_wp2
      by_cases hab : a = b
      · have hab' : ((a : Int) != b) = false := by simp [hab]
        have Hn := Lib.hid (show eqL L M = eqL (L.drop (k + 1)) (M.drop (k + 1)) by rw [he.out, Hat.out]; simp [hab])
        clear hab
        go_quiet (fail)
        go_wp2
        go_roundw
        case rel => exact ⟨k + 1, by omega, by go_num, Below.drewN' hb _, Hn⟩
        case measure => simp [intOf]; omega
      · have hab' : ((a : Int) != b) = true := by simpa using hab
        have Hn := Lib.hid (show eqL L M = false by rw [he.out, Hat.out]; simp [hab])
        clear hab
        go_quiet (fail)
        go_wp2
        go_ret
        exact ⟨ret_bool Hn.out.symm, Below.drewN' hb _⟩
    · have Hn := Lib.hid (show eqL L M = true by
        rw [he.out, List.drop_eq_nil_of_le (by omega), List.drop_eq_nil_of_le (by have := Hl.out; omega)]; rfl)
      go_wp2
      go_ret
      exact ⟨ret_bool Hn.out.symm, hb⟩

set_option maxHeartbeats 1000000 in
theorem sized_like (B wd ht g B' wd' ht' g' : Nat) (L M : List Int) (w : World) (h : BufAt w B wd ht g L) (h' : BufAt w B' wd' ht' g' M) :
    Makes Try.prog 92 #[.pointer (some ⟨B, 0, none⟩), .pointer (some ⟨B', 0, none⟩)] w (.bool (eqR ⟨0, 0, (wd : Int), (ht : Int)⟩ ⟨0, 0, (wd' : Int), (ht' : Int)⟩)) := by
  unfold Makes
  have heq := eql_rc
  have hne := After.ne w
  have k0 := After.rule h.three.1
  have k1 := After.rule h.three.2.1
  have k2 := After.rule h.three.2.2
  have j0 := After.rule h'.three.1
  have j1 := After.rule h'.three.2.1
  have j2 := After.rule h'.three.2.2
  clear h h'
  go_enter Try.func92, Try.ntmps92
  go_upto_region 1 with (fail)
  refine wp_region_after (by kernel_rfl) (by kernel_rfl) ?_
  repeat (go_big_quiet_step ((go_at_call 81; exact Makes.after (whole_any _ _ _ _))))
  refine wpQuiet_nil ?_
  rintro _ ⟨nq, rfl⟩
  have Hn := Lib.hid nq.below
  go_wp2
  go_ret
  exact ⟨rfl, Hn.out⟩

end Go.Proofs.Ytpddkhhdleknnaa
