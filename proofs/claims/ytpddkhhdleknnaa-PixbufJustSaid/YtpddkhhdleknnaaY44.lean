/- Several texts in one, each with its own head. -/
import Derived.Test.YtpddkhhdleknnaaY41
import Derived.Test.YtpddkhhdleknnaaY42
import Derived.Test.YtpddkhhdleknnaaY43
import Derived.Test.YtpddkhhdleknnaaY16
/- What pixbuf's Diff comes to, in plain words; acts as arguments with their bounds; a list of one act. -/
namespace Go.Proofs.Ytpddkhhdleknnaa
open Go.ChangeShapes Go.WideShapes Go.ChangeAt Go.RowKit Go.Joins Go.Deep

/-- The list in form of the pixels in which two pictures of one size are unlike. -/
def unlL (wd ht : Nat) (L M : List Int) : List Rc := formL (fun p _ => p) (diffL wd L M ht) []

theorem unlL_pix {wd ht : Nat} {L M : List Int} (hw : wd ≤ 256) (hh : ht ≤ 256) (X Y : Nat) : pix (unlL wd ht L M) X Y = true ↔ (Y < ht ∧ X < wd ∧ L[Y * wd + X]? ≠ M[Y * wd + X]?) := by
  unfold unlL
  rw [pix_form _ rfl, (diffL_ok wd L M hw ht hh).2.2]
  unfold unl
  simp

/-- Each of its rectangles lies in the picture, and all of its pixels are unlike. -/
theorem unlL_rc {wd ht : Nat} {L M : List Int} (hw : wd ≤ 256) (hh : ht ≤ 256) {r : Rc} (hr : r ∈ unlL wd ht L M) : ∃ px py aw ah : Nat, r = ⟨px, py, aw, ah⟩ ∧ 1 ≤ aw ∧ 1 ≤ ah ∧ px + aw ≤ wd ∧ py + ah ≤ ht ∧ ∀ X Y : Nat, hasR r X Y = true → L[Y * wd + X]? ≠ M[Y * wd + X]? := by
  have he : emptyR r = false := form_full _ rfl _ _ r hr
  have hb := emptyR_false.1 he
  have hall : ∀ x y : Int, hasR r x y = true → pix (diffL wd L M ht) x y = true := fun x y h => by
    have h1 : pix (unlL wd ht L M) x y = true := pix_iff.2 ⟨r, hr, h⟩
    unfold unlL at h1
    rw [pix_form _ rfl] at h1
    exact h1
  have hin : ∀ x y : Int, hasR r x y = true → 0 ≤ x ∧ x < wd ∧ 0 ≤ y ∧ y < ht := fun x y h => by
    obtain ⟨q, hq, h2⟩ := pix_iff.1 (hall x y h)
    obtain ⟨-, h3, h4⟩ := has_iff.1 h2
    have := (diffL_ok wd L M hw ht hh).2.1 q hq
    omega
  have c1 := hin r.x r.y (has_iff.2 ⟨he, by omega, by omega⟩)
  have c2 := hin (r.x + r.a - 1) (r.y + r.b - 1) (has_iff.2 ⟨he, by omega, by omega⟩)
  refine ⟨r.x.toNat, r.y.toNat, r.a.toNat, r.b.toNat, ?_, by omega, by omega, by omega, by omega, fun X Y h => ?_⟩
  · cases r
    simp only [Rc.mk.injEq]
    simp only at c1 c2 hb
    omega
  · have h1 : pix (unlL wd ht L M) X Y = true := pix_iff.2 ⟨r, hr, h⟩
    exact ((unlL_pix hw hh X Y).1 h1).2.2

theorem unlL_fit {wd ht : Nat} {L M : List Int} : ∀ r ∈ unlL wd ht L M, Fit r := form_fit _ rfl _ _
theorem unlL_is (wd ht : Nat) (L M : List Int) : isL (unlL wd ht L M) = true := isL_form _ rfl _ _

/-- It is empty just where the two are the same. -/
theorem unlL_nil {wd ht : Nat} {L M : List Int} (hw : wd ≤ 256) (hh : ht ≤ 256) (h1 : wd * ht = L.length) (h2 : wd * ht = M.length) : decide ((unlL wd ht L M).length = 0) = eqL L M := by
  rw [Bool.eq_iff_iff, decide_eq_true_eq, eqL_iff]
  constructor
  · intro h
    refine pix_ext h1.symm h2.symm fun X Y hX hY => ?_
    cases hd : decide (L[Y * wd + X]? = M[Y * wd + X]?)
    · exfalso
      have h3 := (unlL_pix (L := L) (M := M) hw hh X Y).2 ⟨hY, hX, by simpa using hd⟩
      rw [List.length_eq_zero_iff.1 h] at h3
      cases h3
    · simpa using hd
  · rintro rfl
    cases hl : unlL wd ht L L with
    | nil => rfl
    | cons r l =>
      exfalso
      obtain ⟨px, py, aw, ah, rfl, a1, a2, a3, a4, hn⟩ := unlL_rc (L := L) (M := L) hw hh (r := r) (by rw [hl]; simp)
      exact hn px py (has_iff.2 ⟨emptyR_false.2 (by simp only; omega), by simp only; omega, by simp only; omega⟩) rfl

/-- A rectangle whose pixels all lie in another one lies in it. -/
theorem in_of_pixels {px py aw ah : Nat} {s : Rc} (h1 : 1 ≤ aw) (h2 : 1 ≤ ah) (h3 : px + aw ≤ 256) (h4 : py + ah ≤ 256) (h : ∀ X Y : Nat, hasR ⟨px, py, aw, ah⟩ X Y = true → hasR s X Y = true) : inR ⟨px, py, aw, ah⟩ s = true := by
  have he : emptyR ⟨(px : Int), (py : Int), (aw : Int), (ah : Int)⟩ = false := emptyR_false.2 (by simp only; omega)
  have g1 := has_iff.1 (h px py (has_iff.2 ⟨he, by simp only; omega, by simp only; omega⟩))
  have g2 := has_iff.1 (h (px + aw - 1) (py + ah - 1) (has_iff.2 ⟨he, by simp only; omega, by simp only; omega⟩))
  exact in_iff.2 (.inr ⟨he, g1.1, by simp only; omega, by simp only; omega, by simp only; omega, by simp only; omega⟩)

set_option maxRecDepth 100000 in
theorem open_act2 {W : World} {base : Nat} {v : Value} (hv : Value.okWide Try.prog W .any base 54 v) :
    ∃ (d x y c : Int) (r : Rc) (mw mh : Int) (p : Option Addr) (n cp : Nat) (t : Rc) (dx dy : Int), v = ActV d x y c r mw mh (.slice p n cp) t dx dy ∧ Fit r ∧ Fit t ∧ (0 ≤ c ∧ c < 4294967296) ∧ (-9223372036854775808 ≤ dx ∧ dx ≤ 9223372036854775807) ∧ (-9223372036854775808 ≤ dy ∧ dy ≤ 9223372036854775807) := by
  obtain ⟨d, x, y, c, r, mw, mh, p, n, cp, t, dx, dy, rfl, h1, h2, h3⟩ := open_act hv
  refine ⟨d, x, y, c, r, mw, mh, p, n, cp, t, dx, dy, rfl, h1, h2, h3, ?_⟩
  have h4 := hv
  unfold Value.okWide at h4
  rw [Try.underlying54] at h4
  obtain ⟨cs, hcs, hsz, ts, hts, -, hall⟩ := h4
  have ht : Try.prog.cellTypes Try.prog.depth 54 = some [3, 3, 3, 49, 3, 3, 3, 3, 3, 3, 37, 3, 3, 3, 3, 3, 3] := by kernel_rfl
  rw [ht] at hts
  cases hts
  cases hcs
  have key : ∀ i v, (#[Value.int .i64 d, .int .i64 x, .int .i64 y, .int .u32 c, .int .i64 r.x, .int .i64 r.y, .int .i64 r.a, .int .i64 r.b, .int .i64 mw, .int .i64 mh, .slice p n cp, .int .i64 t.x, .int .i64 t.y, .int .i64 t.a, .int .i64 t.b, .int .i64 dx, .int .i64 dy] : Array Value)[i]? = some v → (i = 15 ∨ i = 16) → Cell.okWide Try.prog W .any base 3 v := by
    intro i v h1 hi
    obtain ⟨u', h3, h4⟩ := hall i v h1
    rcases hi with rfl | rfl <;> (simp at h3; subst h3; exact h4)
  obtain ⟨m1, e1, b1⟩ := cell_int Try.underlying3 (key 15 (.int .i64 dx) rfl (.inl rfl))
  obtain ⟨m2, e2, b2⟩ := cell_int Try.underlying3 (key 16 (.int .i64 dy) rfl (.inr rfl))
  cases e1
  cases e2
  exact ⟨has_i64 b1, has_i64 b2⟩

set_option maxHeartbeats 1000000 in
theorem great_one (wd ht : Int) (p : Option Addr) (n c g cap : Nat) (pm : Option Addr) (mn mc : Nat) (w : World) (hg : w.cell? ⟨g, 10, none⟩ = some (.slice pm mn mc)) : Makes Try.prog 26 #[IV wd ht (.slice p n c), .slice (some ⟨g, 0, none⟩) 1 cap] w (.bool (decide (1000 < n) || decide (1000 < mn))) := by
  unfold Makes
  by_cases h : 1000 < n
  · have d : decide ((1000 : Int) < (n : Int)) = true := by simp; omega
    have hd : (decide (1000 < n) || decide (1000 < mn)) = true := by simp; omega
    rw [hd]
    clear h hd hg
    go_enter Try.func26, Try.ntmps26
    go_wp2
    go_ret
    exact ⟨rfl, Below.al1 _ _⟩
  · have d : decide ((1000 : Int) < (n : Int)) = false := by simp; omega
    have hd : (decide (1000 < n) || decide (1000 < mn)) = decide (1000 < mn) := by simp; omega
    rw [hd]
    obtain ⟨big, hbig⟩ : ∃ big, decide (1000 < mn) = big := ⟨_, rfl⟩
    rw [hbig]
    have Hbig := Lib.hid hbig
    clear hbig
    have hg' := cell_later (Below.al1 w (.cells #[.int .i64 wd, .int .i64 ht, .slice p n c] 39)) hg
    clear h hd hg
    go_enter Try.func26, Try.ntmps26
    go_wp2
    go_loopw [5] (fun i wr => ∃ k : Nat, k ≤ 1 ∧ i = .int .i64 k ∧ wr = w.alloc (.cells #[.int .i64 wd, .int .i64 ht, .slice p n c] 39) ∧ Hid (k = 1 → mn ≤ 1000)) (fun i _ => 1 - (intOf i).toNat)
    case atStart => exact ⟨0, by omega, rfl, rfl, Lib.hid (fun h => by omega)⟩
    case round =>
      obtain ⟨k, hk, rfl, rfl, Hm⟩ := hrel
      rcases (show k = 0 ∨ k = 1 by omega) with rfl | rfl
      · by_cases hm : 1000 < mn
        · have dm : decide ((1000 : Int) < (mn : Int)) = true := by simp; omega
          have Hd := Lib.hid (show decide (1000 < mn) = true by simpa using hm)
          clear hm
          go_wp2
          go_ret
          exact ⟨ret_bool (by rw [← Hbig.out, Hd.out]), Below.al1 _ _⟩
        · have dm : decide ((1000 : Int) < (mn : Int)) = false := by simp; omega
          have Hm2 := Lib.hid (show 1 = 1 → mn ≤ 1000 from fun _ => by omega)
          clear hm
          go_wp2
          go_roundw
          case rel => exact ⟨1, by omega, rfl, by first | rfl | trivial, Hm2⟩
          case measure => simp [intOf]
      · have Hd := Lib.hid (show decide (1000 < mn) = false by have := Hm.out rfl; simp; omega)
        go_wp2
        go_ret
        exact ⟨ret_bool (by rw [← Hbig.out, Hd.out]), Below.al1 _ _⟩

end Go.Proofs.Ytpddkhhdleknnaa

/- The statements' closed picture of layer 3: it answers true, and keeps all that there is. -/
namespace Go.Proofs.Ytpddkhhdleknnaa
open Go.RowKit

set_option maxRecDepth 100000 in
set_option maxHeartbeats 4000000 in
theorem wakes3_any (w : World) : Makes Try.prog 27 #[] w (.bool true) := by
  unfold Makes
  go_enter Try.func27, Try.ntmps27
  go_wp2_with fail
  have hP1 : Pix (w.alloc (.cells #[.int .u32 1, .int .u32 2, .int .u32 3, .int .u32 4, .int .u32 5, .int .u32 6] 49)) w.heap.size [1, 2, 3, 4, 5, 6] := Array.getElem?_push_size
  have hbw := Below.al1 w (.cells #[.int .u32 1, .int .u32 2, .int .u32 3, .int .u32 4, .int .u32 5, .int .u32 6] 49)
  generalize (w.alloc (.cells #[.int .u32 1, .int .u32 2, .int .u32 3, .int .u32 4, .int .u32 5, .int .u32 6] 49)) = W1 at *
  have hf := from_yes 3 2 w.heap.size 0 6 6 [1, 2, 3, 4, 5, 6] W1 hP1.row rfl (by decide) (by decide) (by intro v hv; simp at hv; omega) (by decide) (by decide) (by decide)
  rw [show cutL 3 0 0 3 2 [1, 2, 3, 4, 5, 6] = [1, 2, 3, 4, 5, 6] by decide] at hf
  refine Calls.mono hf ?_
  rintro e w2 ⟨B, g, rfl, hB, hBl, hgl, hBg, hb2⟩
  have hbw2 := Below.thn hbw hb2
  have Hf := Lib.hid hbw2
  have hsz := hbw.size
  have HB := Lib.hid hB
  clear hf hP1 hbw hb2 hbw2
  go_wp2_with fail
  have hcp := copy_yes B 3 2 g 1 0 2 2 0 0 1 0 [1, 2, 3, 4, 5, 6] w2 HB.out hBg (by decide) (by decide) (by decide) (by decide) (by decide) (by decide) (by kernel_rfl)
  rw [show layL 3 1 0 2 2 0 0 (cutL 3 0 0 2 2 [1, 2, 3, 4, 5, 6]) [1, 2, 3, 4, 5, 6] 2 = [1, 1, 2, 4, 4, 5] by decide] at hcp
  refine Calls.mono hcp ?_
  rintro e w3 ⟨rfl, hB3, ht3⟩
  have hbw3 := Hf.out.trans (ht3.below (B := w.heap.size) (by have := Hf.out.size; omega) (by rintro i rfl; omega))
  have Hf3 := Lib.hid hbw3
  have HB3 := Lib.hid hB3
  clear hcp hB hB3 ht3 hbw3 Hf HB
  go_wp2_with fail
  have hat := at_in B 3 2 g 2 1 [1, 1, 2, 4, 4, 5] w3 HB3.out (by decide) (by decide) (by decide)
  refine Calls.mono hat ?_
  rintro e w4 ⟨rfl, hb4⟩
  have Hf4 := Lib.hid (Hf3.out.trans (hb4.mono Hf3.out.size))
  have HB4 := Lib.hid (HB3.out.later hb4)
  clear hat hb4 Hf3 HB3
  go_wp2_with fail
  refine Calls.mono (image_any B 3 2 g [1, 1, 2, 4, 4, 5] w4 HB4.out) ?_
  rintro e w5 ⟨g5, rfl, hg5, hP5, hb5⟩
  have Hf5 := Lib.hid (Hf4.out.trans (hb5.mono Hf4.out.size))
  have HP5 := Lib.hid hP5
  clear hP5 hb5 hg5
  go_wp2_with fail
  have hP6 : Pix (w5.alloc (.cells #[.int .u32 1, .int .u32 1, .int .u32 2, .int .u32 4, .int .u32 4, .int .u32 5] 49)) w5.heap.size [1, 1, 2, 4, 4, 5] := Array.getElem?_push_size
  have hb6 := Below.al1 w5 (.cells #[.int .u32 1, .int .u32 1, .int .u32 2, .int .u32 4, .int .u32 4, .int .u32 5] 49)
  have hP5 := HP5.out.later hb6
  have Hf6 := Lib.hid (Hf5.out.trans (hb6.mono Hf5.out.size))
  refine Calls.mono (refSame_any 3 2 3 2 _ _ 6 6 [1, 1, 2, 4, 4, 5] [1, 1, 2, 4, 4, 5] _ hP5.row hP6.row (by decide)) ?_
  rw [show (decide ((3 : Int) = 3) && (decide ((2 : Int) = 2) && eqL [1, 1, 2, 4, 4, 5] [1, 1, 2, 4, 4, 5])) = true by decide]
  rintro e w7 ⟨rfl, hb7⟩
  have Hf7 := Lib.hid (Hf6.out.trans (hb7.mono Hf6.out.size))
  clear hb6 hP5 hP6 hb7
  go_wp2
  go_ret
  exact ⟨rfl, Hf7.out⟩

end Go.Proofs.Ytpddkhhdleknnaa
