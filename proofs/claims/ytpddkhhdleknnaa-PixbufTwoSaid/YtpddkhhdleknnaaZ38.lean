/- Several texts in one, each with its own head. -/
import Derived.Test.YtpddkhhdleknnaaZ35
import Derived.Test.YtpddkhhdleknnaaZ36
import Derived.Test.YtpddkhhdleknnaaZ37
import Derived.Test.YtpddkhhdleknnaaZ9
import Derived.Test.YtpddkhhdleknnaaZ20
/- What pixbuf's Diff comes to, in plain words; acts as arguments with their bounds; a list of one act. -/
namespace Go.Proofs.Ytpddkhhdleknnaa
open Go.ChangeShapes Go.WideShapes Go.ChangeAt Go.RowKit Go.Joins Go.Deep

/-- The list in form of the pixels in which two pictures of one size are unlike. -/
def unlL (wd ht : Nat) (L M : List Int) : List Rc := formL (fun p _ => p) (diffL wd L M ht) []

theorem unlL_pix {wd ht : Nat} {L M : List Int} (hw : wd ≤ 256) (hh : ht ≤ 256) (X Y : Nat) : pix (unlL wd ht L M) X Y = true ↔ (Y < ht ∧ X < wd ∧ L[Y * wd + X]? ≠ M[Y * wd + X]?) := by
  unfold unlL
  rw [pix_form _ rfl, (diffL_ok wd L M hw ht hh).2.2]
  unfold unl
  simp

/-- Each of its rectangles lies in the picture, and all of its pixels are unlike. -/
theorem unlL_rc {wd ht : Nat} {L M : List Int} (hw : wd ≤ 256) (hh : ht ≤ 256) {r : Rc} (hr : r ∈ unlL wd ht L M) : ∃ px py aw ah : Nat, r = ⟨px, py, aw, ah⟩ ∧ 1 ≤ aw ∧ 1 ≤ ah ∧ px + aw ≤ wd ∧ py + ah ≤ ht ∧ ∀ X Y : Nat, hasR r X Y = true → L[Y * wd + X]? ≠ M[Y * wd + X]? := by
  have he : emptyR r = false := form_full _ rfl _ _ r hr
  have hb := emptyR_false.1 he
  have hall : ∀ x y : Int, hasR r x y = true → pix (diffL wd L M ht) x y = true := fun x y h => by
    have h1 : pix (unlL wd ht L M) x y = true := pix_iff.2 ⟨r, hr, h⟩
    unfold unlL at h1
    rw [pix_form _ rfl] at h1
    exact h1
  have hin : ∀ x y : Int, hasR r x y = true → 0 ≤ x ∧ x < wd ∧ 0 ≤ y ∧ y < ht := fun x y h => by
    obtain ⟨q, hq, h2⟩ := pix_iff.1 (hall x y h)
    obtain ⟨-, h3, h4⟩ := has_iff.1 h2
    have := (diffL_ok wd L M hw ht hh).2.1 q hq
    omega
  have c1 := hin r.x r.y (has_iff.2 ⟨he, by omega, by omega⟩)
  have c2 := hin (r.x + r.a - 1) (r.y + r.b - 1) (has_iff.2 ⟨he, by omega, by omega⟩)
  refine ⟨r.x.toNat, r.y.toNat, r.a.toNat, r.b.toNat, ?_, by omega, by omega, by omega, by omega, fun X Y h => ?_⟩
  · cases r
    simp only [Rc.mk.injEq]
    simp only at c1 c2 hb
    omega
  · have h1 : pix (unlL wd ht L M) X Y = true := pix_iff.2 ⟨r, hr, h⟩
    exact ((unlL_pix hw hh X Y).1 h1).2.2

theorem unlL_fit {wd ht : Nat} {L M : List Int} : ∀ r ∈ unlL wd ht L M, Fit r := form_fit _ rfl _ _
theorem unlL_is (wd ht : Nat) (L M : List Int) : isL (unlL wd ht L M) = true := isL_form _ rfl _ _

/-- It is empty just where the two are the same. -/
theorem unlL_nil {wd ht : Nat} {L M : List Int} (hw : wd ≤ 256) (hh : ht ≤ 256) (h1 : wd * ht = L.length) (h2 : wd * ht = M.length) : decide ((unlL wd ht L M).length = 0) = eqL L M := by
  rw [Bool.eq_iff_iff, decide_eq_true_eq, eqL_iff]
  constructor
  · intro h
    refine pix_ext h1.symm h2.symm fun X Y hX hY => ?_
    cases hd : decide (L[Y * wd + X]? = M[Y * wd + X]?)
    · exfalso
      have h3 := (unlL_pix (L := L) (M := M) hw hh X Y).2 ⟨hY, hX, by simpa using hd⟩
      rw [List.length_eq_zero_iff.1 h] at h3
      cases h3
    · simpa using hd
  · rintro rfl
    cases hl : unlL wd ht L L with
    | nil => rfl
    | cons r l =>
      exfalso
      obtain ⟨px, py, aw, ah, rfl, a1, a2, a3, a4, hn⟩ := unlL_rc (L := L) (M := L) hw hh (r := r) (by rw [hl]; simp)
      exact hn px py (has_iff.2 ⟨emptyR_false.2 (by simp only; omega), by simp only; omega, by simp only; omega⟩) rfl

/-- A rectangle whose pixels all lie in another one lies in it. -/
theorem in_of_pixels {px py aw ah : Nat} {s : Rc} (h1 : 1 ≤ aw) (h2 : 1 ≤ ah) (h3 : px + aw ≤ 256) (h4 : py + ah ≤ 256) (h : ∀ X Y : Nat, hasR ⟨px, py, aw, ah⟩ X Y = true → hasR s X Y = true) : inR ⟨px, py, aw, ah⟩ s = true := by
  have he : emptyR ⟨(px : Int), (py : Int), (aw : Int), (ah : Int)⟩ = false := emptyR_false.2 (by simp only; omega)
  have g1 := has_iff.1 (h px py (has_iff.2 ⟨he, by simp only; omega, by simp only; omega⟩))
  have g2 := has_iff.1 (h (px + aw - 1) (py + ah - 1) (has_iff.2 ⟨he, by simp only; omega, by simp only; omega⟩))
  exact in_iff.2 (.inr ⟨he, g1.1, by simp only; omega, by simp only; omega, by simp only; omega, by simp only; omega⟩)

set_option maxRecDepth 100000 in
theorem open_act2 {W : World} {base : Nat} {v : Value} (hv : Value.okWide Try.prog W .any base 54 v) :
    ∃ (d x y c : Int) (r : Rc) (mw mh : Int) (p : Option Addr) (n cp : Nat) (t : Rc) (dx dy : Int), v = ActV d x y c r mw mh (.slice p n cp) t dx dy ∧ Fit r ∧ Fit t ∧ (0 ≤ c ∧ c < 4294967296) ∧ (-9223372036854775808 ≤ dx ∧ dx ≤ 9223372036854775807) ∧ (-9223372036854775808 ≤ dy ∧ dy ≤ 9223372036854775807) := by
  obtain ⟨d, x, y, c, r, mw, mh, p, n, cp, t, dx, dy, rfl, h1, h2, h3⟩ := open_act hv
  refine ⟨d, x, y, c, r, mw, mh, p, n, cp, t, dx, dy, rfl, h1, h2, h3, ?_⟩
  have h4 := hv
  unfold Value.okWide at h4
  rw [Try.underlying54] at h4
  obtain ⟨cs, hcs, hsz, ts, hts, -, hall⟩ := h4
  have ht : Try.prog.cellTypes Try.prog.depth 54 = some [3, 3, 3, 49, 3, 3, 3, 3, 3, 3, 37, 3, 3, 3, 3, 3, 3] := by kernel_rfl
  rw [ht] at hts
  cases hts
  cases hcs
  have key : ∀ i v, (#[Value.int .i64 d, .int .i64 x, .int .i64 y, .int .u32 c, .int .i64 r.x, .int .i64 r.y, .int .i64 r.a, .int .i64 r.b, .int .i64 mw, .int .i64 mh, .slice p n cp, .int .i64 t.x, .int .i64 t.y, .int .i64 t.a, .int .i64 t.b, .int .i64 dx, .int .i64 dy] : Array Value)[i]? = some v → (i = 15 ∨ i = 16) → Cell.okWide Try.prog W .any base 3 v := by
    intro i v h1 hi
    obtain ⟨u', h3, h4⟩ := hall i v h1
    rcases hi with rfl | rfl <;> (simp at h3; subst h3; exact h4)
  obtain ⟨m1, e1, b1⟩ := cell_int Try.underlying3 (key 15 (.int .i64 dx) rfl (.inl rfl))
  obtain ⟨m2, e2, b2⟩ := cell_int Try.underlying3 (key 16 (.int .i64 dy) rfl (.inr rfl))
  cases e1
  cases e2
  exact ⟨has_i64 b1, has_i64 b2⟩

set_option maxHeartbeats 1000000 in
theorem great_one (wd ht : Int) (p : Option Addr) (n c g cap : Nat) (pm : Option Addr) (mn mc : Nat) (w : World) (hg : w.cell? ⟨g, 10, none⟩ = some (.slice pm mn mc)) : Makes Try.prog 26 #[IV wd ht (.slice p n c), .slice (some ⟨g, 0, none⟩) 1 cap] w (.bool (decide (1000 < n) || decide (1000 < mn))) := by
  unfold Makes
  by_cases h : 1000 < n
  · have d : decide ((1000 : Int) < (n : Int)) = true := by simp; omega
    have hd : (decide (1000 < n) || decide (1000 < mn)) = true := by simp; omega
    rw [hd]
    clear h hd hg
    go_enter Try.func26, Try.ntmps26
    go_wp2
    go_ret
    exact ⟨rfl, Below.al1 _ _⟩
  · have d : decide ((1000 : Int) < (n : Int)) = false := by simp; omega
    have hd : (decide (1000 < n) || decide (1000 < mn)) = decide (1000 < mn) := by simp; omega
    rw [hd]
    obtain ⟨big, hbig⟩ : ∃ big, decide (1000 < mn) = big := ⟨_, rfl⟩
    rw [hbig]
    have Hbig := Lib.hid hbig
    clear hbig
    have hg' := cell_later (Below.al1 w (.cells #[.int .i64 wd, .int .i64 ht, .slice p n c] 39)) hg
    clear h hd hg
    go_enter Try.func26, Try.ntmps26
    go_wp2
    go_loopw [5] (fun i wr => ∃ k : Nat, k ≤ 1 ∧ i = .int .i64 k ∧ wr = w.alloc (.cells #[.int .i64 wd, .int .i64 ht, .slice p n c] 39) ∧ Hid (k = 1 → mn ≤ 1000)) (fun i _ => 1 - (intOf i).toNat)
    case atStart => exact ⟨0, by omega, rfl, rfl, Lib.hid (fun h => by omega)⟩
    case round =>
      obtain ⟨k, hk, rfl, rfl, Hm⟩ := hrel
      rcases (show k = 0 ∨ k = 1 by omega) with rfl | rfl
      · by_cases hm : 1000 < mn
        · have dm : decide ((1000 : Int) < (mn : Int)) = true := by simp; omega
          have Hd := Lib.hid (show decide (1000 < mn) = true by simpa using hm)
          clear hm
          go_wp2
          go_ret
          exact ⟨ret_bool (by rw [← Hbig.out, Hd.out]), Below.al1 _ _⟩
        · have dm : decide ((1000 : Int) < (mn : Int)) = false := by simp; omega
          have Hm2 := Lib.hid (show 1 = 1 → mn ≤ 1000 from fun _ => by omega)
          clear hm
          go_wp2
          go_roundw
          case rel => exact ⟨1, by omega, rfl, by first | rfl | trivial, Hm2⟩
          case measure => simp [intOf]
      · have Hd := Lib.hid (show decide (1000 < mn) = false by have := Hm.out rfl; simp; omega)
        go_wp2
        go_ret
        exact ⟨ret_bool (by rw [← Hbig.out, Hd.out]), Below.al1 _ _⟩

end Go.Proofs.Ytpddkhhdleknnaa

/- The walks of the document's own answers for rectangles (Good, Empty, Has, Area): each is the same number as the program's. -/
namespace Go.Proofs.Ytpddkhhdleknnaa
open Go.RowKit

theorem goodR_false {r : Rc} (h : ¬ ((-1048576 ≤ r.x ∧ 0 ≤ r.a ∧ r.a ≤ 1048576 - r.x) ∧ (-1048576 ≤ r.y ∧ 0 ≤ r.b ∧ r.b ≤ 1048576 - r.y))) : goodR r = false := by
  cases hg : goodR r
  · rfl
  · exact absurd (goodR_iff.1 hg) h

theorem hasR_empty {r : Rc} {x y : Int} (h : emptyR r = true) : hasR r x y = false := by
  cases hh : hasR r x y
  · rfl
  · have h1 : goodR r = true ∧ (r.x ≤ x ∧ x < r.x + r.a) ∧ (r.y ≤ y ∧ y < r.y + r.b) := by simpa [hasR, wayHas] using hh
    have h2 := goodR_iff.1 h1.1
    have h3 : emptyR r = false := emptyR_false.2 (by omega)
    rw [h3] at h; cases h

set_option maxHeartbeats 1000000 in
theorem rgood_any (r : Rc) (w : World) : Makes Try.prog 112 #[RV r] w (.bool (goodR r)) := by
  unfold Makes
  go_enter Try.func112, Try.ntmps112
  go_wp2
  all_goals (go_ret; exact ⟨ret_bool (by rw [Bool.eq_iff_iff, goodR_iff]; simp; omega), Below.al1 _ _⟩)

set_option maxHeartbeats 400000 in
theorem rempty_any (r : Rc) (w : World) : Makes Try.prog 88 #[RV r] w (.bool (emptyR r)) := by
  unfold Makes
  go_enter Try.func88, Try.ntmps88
  go_wp2_with fail
  refine Calls.mono (rgood_any _ _) ?_
  rintro e w1 ⟨rfl, hb1⟩
  have hbw : Below w.heap.size w w1 := Below.thn (Below.al1 _ _) hb1
  obtain ⟨hc0, hc1, hc2, hc3⟩ : Lies w1 w.heap.size r := (Lies.new rfl).later hb1
  cases hg : goodR r
  · have Hg := Lib.hid hg
    clear hg
    go_wp2
    go_ret
    exact ⟨ret_bool (by simp [emptyR, Hg.out]), hbw⟩
  · have Hg := Lib.hid hg
    obtain ⟨⟨g1, g2, g3⟩, g4, g5, g6⟩ := goodR_iff.1 hg
    clear hg
    go_wp2
    all_goals (go_ret; exact ⟨ret_bool (by rw [Bool.eq_iff_iff]; simp [emptyR, Hg.out, fullR, wayFull]; omega), hbw⟩)

set_option maxHeartbeats 1000000 in
theorem rhas_any (r : Rc) (x y : Int) (w : World) : Makes Try.prog 70 #[RV r, .int .i64 x, .int .i64 y] w (.bool (hasR r x y)) := by
  unfold Makes
  go_enter Try.func70, Try.ntmps70
  go_wp2_with fail
  refine Calls.mono (rempty_any _ _) ?_
  rintro e w1 ⟨rfl, hb1⟩
  have hbw : Below w.heap.size w w1 := Below.thn (Below.al1 _ _) hb1
  obtain ⟨hc0, hc1, hc2, hc3⟩ : Lies w1 w.heap.size r := (Lies.new rfl).later hb1
  cases hg : emptyR r
  · have Hg := Lib.hid hg
    have Hgd := Lib.hid (good_of_empty hg)
    obtain ⟨⟨g1, g2, g3⟩, g4, g5, g6⟩ := emptyR_false.1 hg
    clear hg
    go_wp2
    all_goals (go_ret; exact ⟨ret_bool (by rw [Bool.eq_iff_iff]; simp [hasR, Hgd.out, wayHas]; omega), hbw⟩)
  · have Hg := Lib.hid hg
    clear hg
    go_wp2
    go_ret
    exact ⟨ret_bool (by rw [hasR_empty Hg.out]), hbw⟩

end Go.Proofs.Ytpddkhhdleknnaa

/- The document's own answers for lists of rectangles: Has, in, alike. -/
namespace Go.Proofs.Ytpddkhhdleknnaa
open Go.RowKit

theorem pix_take (xs : List Rc) (k : Nat) (h : k < xs.length) (x y : Int) : pix (xs.take (k + 1)) x y = (pix (xs.take k) x y || hasR xs[k] x y) := by
  rw [List.take_succ_eq_append_getElem h, pix_append]; simp [pix]

set_option maxHeartbeats 1000000 in
theorem rregHas_any (v : Value) (xs : List Rc) (x y : Int) (w : World) (hv : Row encR 4 w v xs) : Makes Try.prog 18 #[v, .int .i64 x, .int .i64 y] w (.bool (pix xs x y)) := by
  unfold Makes
  have hn := hv.len
  obtain ⟨p, cap, rfl, -, -, hp⟩ := hv
  go_enter Try.func18, Try.ntmps18
  go_wp2
  go_loopw [7] (fun i wr => ∃ k : Nat, k ≤ xs.length ∧ i = .int .i64 k ∧ Below w.heap.size w wr ∧ Hid (pix (xs.take k) x y = false)) (fun i _ => xs.length - (intOf i).toNat)
  case atStart => exact ⟨0, by omega, rfl, Below.refl _ _, Lib.hid rfl⟩
  case round =>
    obtain ⟨k, hk, rfl, hb, he⟩ := hrel
    by_cases hlt : k < xs.length
    · obtain ⟨b, off, rfl, hB, hc⟩ := (hp.below hb).rc hlt
      obtain ⟨a0, a1, a2, a3⟩ := hc k hlt
      have Hat := Lib.hid (pix_take xs k hlt x y)
      have Hin := Lib.hid (show hasR xs[k] x y = true → pix xs x y = true from fun h => pix_iff.2 ⟨_, List.getElem_mem hlt, h⟩)
      clear hc
      generalize xs[k] = r at *
      go_wp2_with fail
      refine Calls.mono (rhas_any r x y _) ?_
      rintro e w1 ⟨rfl, hb1⟩
      have hb2 := hb.trans (hb1.mono hb.size)
      cases hr : hasR r x y
      · have Hn := Lib.hid (show pix (xs.take (k + 1)) x y = false by rw [Hat.out, he.out, hr]; rfl)
        clear hr
        go_wp2
        go_roundw
        case rel => exact ⟨k + 1, by omega, by go_num, hb2, Hn⟩
        case measure => simp [intOf]; omega
      · have Hn := Lib.hid (Hin.out hr)
        clear hr
        go_wp2
        go_ret
        exact ⟨ret_bool Hn.out.symm, hb2⟩
    · obtain rfl : k = xs.length := by omega
      have Hn := he
      rw [List.take_length] at Hn
      go_wp2
      go_ret
      exact ⟨ret_bool Hn.out.symm, hb⟩

theorem rregHas_eq {t : Bool} (v : Value) (xs : List Rc) (x y : Int) (w : World) (h : pix xs x y = t) (hv : Row encR 4 w v xs) : Makes Try.prog 18 #[v, .int .i64 x, .int .i64 y] w (.bool t) := h ▸ rregHas_any v xs x y w hv

/-- Which pixels are meant: 0: of both; 1: of the first one alone; else: that both have. -/
def howF (how : Int) (p q : Bool) : Bool := if how = 0 then p || q else if how = 1 then p && !q else p && q

set_option maxHeartbeats 1000000 in
theorem rrin_any (va vb : Value) (a b : List Rc) (x y how : Int) (w : World) (ha : Row encR 4 w va a) (hb : Row encR 4 w vb b) :
    Makes Try.prog 58 #[va, vb, .int .i64 x, .int .i64 y, .int .i64 how] w (.bool (howF how (pix a x y) (pix b x y))) := by
  unfold Makes
  obtain ⟨P, hP⟩ : ∃ P, pix a x y = P := ⟨_, rfl⟩
  obtain ⟨Q, hQ⟩ : ∃ Q, pix b x y = Q := ⟨_, rfl⟩
  rw [hP, hQ]
  have Hb := Lib.hid hb
  go_enter Try.func58, Try.ntmps58
  go_wp2_with fail
  refine Calls.mono (rregHas_eq va a x y _ hP ha) ?_
  rintro e w1 ⟨rfl, hb1⟩
  go_wp2_with fail
  refine Calls.mono (rregHas_eq vb b x y _ hQ (Hb.out.below hb1)) ?_
  rintro e w2 ⟨rfl, hb2⟩
  have Hbw := Lib.hid (Below.thn hb1 hb2)
  clear hP hQ hb1 hb2
  by_cases h0 : how = 0
  · subst h0
    cases P <;> cases Q
    all_goals
      go_wp2
      go_ret
      exact ⟨rfl, Hbw.out⟩
  · have z0 : ((how : Int) == 0) = false := by simpa using h0
    by_cases h1 : how = 1
    · subst h1
      cases P <;> cases Q
      all_goals
        go_wp2
        go_ret
        exact ⟨rfl, Hbw.out⟩
    · have z1 : ((how : Int) == 1) = false := by simpa using h1
      have Hh := Lib.hid (show ∀ p q, howF how p q = (p && q) from fun p q => by simp [howF, h0, h1])
      clear h0 h1
      cases P <;> cases Q
      all_goals
        go_wp2
        go_ret
        exact ⟨ret_bool (by rw [Hh.out]; rfl), Hbw.out⟩

end Go.Proofs.Ytpddkhhdleknnaa

/- The document's own alike: have two bands the same across? -/
namespace Go.Proofs.Ytpddkhhdleknnaa
open Go.RowKit

def alikeB (a b : List Rc) : Bool := decide (a.length = b.length) && sameCols a b

set_option maxRecDepth 100000 in
set_option maxHeartbeats 2000000 in
theorem ralike_any (va vb : Value) (a b : List Rc) (w : World) (ha : Row encR 4 w va a) (hb : Row encR 4 w vb b) :
    Makes Try.prog 59 #[va, vb] w (.bool (alikeB a b)) := by
  unfold Makes
  have hla := ha.len
  have hlb := hb.len
  obtain ⟨pa, ca, rfl, hca, hma, hpa⟩ := ha
  obtain ⟨pb, cb, rfl, hcb, hmb, hpb⟩ := hb
  by_cases hll : a.length = b.length
  · have hne : ((a.length : Int) != (b.length : Int)) = false := by simp [hll]
    have Hge := Lib.hid (show alikeB a b = sameCols a b by simp [alikeB, hll])
    have Hll := Lib.hid hll
    have Hpa := Lib.hid hpa
    have Hpb := Lib.hid hpb
    clear hll hpa hpb
    go_enter Try.func59, Try.ntmps59
    go_wp2
    go_loopw [5] (fun i wr => ∃ k : Nat, k ≤ a.length ∧ i = .int .i64 k ∧ Below w.heap.size w wr ∧ Hid (sameCols a b = sameCols (a.drop k) (b.drop k))) (fun i _ => a.length - (intOf i).toNat)
    case atStart => exact ⟨0, by omega, rfl, Below.refl _ _, Lib.hid rfl⟩
    case round =>
      obtain ⟨k, hk, rfl, hbw, He⟩ := hrel
      by_cases hlt2 : k < a.length
      · have hlt : k < b.length := by rw [← Hll.out]; exact hlt2
        obtain ⟨b1, o1, rfl, -, hc⟩ := (Hpa.out.below hbw).rc hlt2
        obtain ⟨b2, o2, rfl, -, hd⟩ := (Hpb.out.below hbw).rc hlt
        obtain ⟨p0, p1, p2, p3⟩ := hc k hlt2
        obtain ⟨q0, q1, q2, q3⟩ := hd k hlt
        have Hat := Lib.hid (sameCols_at hlt2 hlt)
        have Hbx := Lib.hid hbw
        clear hc hd
        generalize a[k] = ra at *
        generalize b[k] = rb at *
        go_wp2
        by_cases hx : ra.x = rb.x
        · have hx' : ((ra.x : Int) != rb.x) = false := by simp [hx]
          by_cases hww : ra.a = rb.a
          · have hww' : ((ra.a : Int) != rb.a) = false := by simp [hww]
            have Hn := Lib.hid (show sameCols a b = sameCols (a.drop (k + 1)) (b.drop (k + 1)) by rw [He.out, Hat.out]; simp [hx, hww])
            clear hx hww
            go_quiet (fail)
            go_wp2
            go_roundw
            case rel => exact ⟨k + 1, by omega, by go_num, Below.drewN' Hbx.out _, Hn⟩
            case measure => simp [intOf]; omega
          · have hww' : ((ra.a : Int) != rb.a) = true := by simp; omega
            have Hn := Lib.hid (show alikeB a b = false by rw [Hge.out, He.out, Hat.out]; simp [hww])
            clear hx hww
            go_quiet (fail)
            go_wp2
            go_ret
            exact ⟨ret_bool Hn.out.symm, Below.drewN' Hbx.out _⟩
        · have hx' : ((ra.x : Int) != rb.x) = true := by simp; omega
          have Hn := Lib.hid (show alikeB a b = false by rw [Hge.out, He.out, Hat.out]; simp [hx])
          clear hx
          go_quiet (fail)
          go_wp2
          go_ret
          exact ⟨ret_bool Hn.out.symm, Below.drewN' Hbx.out _⟩
      · have Hn := Lib.hid (show alikeB a b = true by
          rw [Hge.out, He.out, List.drop_eq_nil_of_le (by omega), List.drop_eq_nil_of_le (by have := Hll.out; omega)]; simp [sameCols])
        go_wp2
        go_ret
        exact ⟨ret_bool Hn.out.symm, hbw⟩
  · have hne : ((a.length : Int) != (b.length : Int)) = true := by simp; omega
    have Hn := Lib.hid (show alikeB a b = false by simp [alikeB, hll])
    clear hll hpa hpb
    go_enter Try.func59, Try.ntmps59
    go_wp2
    go_ret
    exact ⟨ret_bool Hn.out.symm, Below.refl _ _⟩

/-- One place more among places that rise: in its place, once. -/
def insI (x : Int) : List Int → List Int
  | [] => [x]
  | y :: l => if y < x then y :: insI x l else if y = x then y :: l else x :: y :: l

theorem insI_mem {x z : Int} : ∀ {l : List Int}, z ∈ insI x l ↔ z = x ∨ z ∈ l
  | [] => by simp [insI]
  | y :: l => by
    unfold insI
    split
    · simp only [List.mem_cons, insI_mem]
      constructor
      · rintro (h | h | h)
        · exact .inr (.inl h)
        · exact .inl h
        · exact .inr (.inr h)
      · rintro (h | h | h)
        · exact .inr (.inl h)
        · exact .inl h
        · exact .inr (.inr h)
    · split
      · rename_i h
        subst h
        simp
      · simp

theorem insI_rises {x : Int} : ∀ {l : List Int}, l.Pairwise (· < ·) → (insI x l).Pairwise (· < ·)
  | [], _ => by simp [insI]
  | y :: l, h => by
    have h1 := List.pairwise_cons.1 h
    unfold insI
    split
    · rename_i hy
      refine List.pairwise_cons.2 ⟨fun z hz => ?_, insI_rises h1.2⟩
      rcases insI_mem.1 hz with rfl | hz
      · exact hy
      · exact h1.1 z hz
    · split
      · exact h
      · rename_i h2 h3
        refine List.pairwise_cons.2 ⟨fun z hz => ?_, h⟩
        rcases List.mem_cons.1 hz with rfl | hz
        · omega
        · have := h1.1 z hz; omega

/-- Where it is put: behind the first k, all of which are less. -/
theorem insI_at {x : Int} : ∀ {l : List Int} {k : Nat}, k ≤ l.length → (∀ j (h : j < l.length), j < k → l[j] < x) → (∀ h : k < l.length, ¬ l[k] < x) →
    insI x l = if (∃ h : k < l.length, l[k] = x) then l else l.take k ++ x :: l.drop k
  | [], k, hk, _, _ => by
    have : k = 0 := by simpa using hk
    subst this
    simp [insI]
  | y :: l, 0, _, _, h2 => by
    have h3 := h2 (by simp)
    simp only [List.getElem_cons_zero] at h3
    unfold insI
    rw [if_neg h3]
    by_cases e : y = x
    · rw [if_pos e, if_pos ⟨by simp, by simpa using e⟩]
    · rw [if_neg e, if_neg (by rintro ⟨_, h⟩; exact e (by simpa using h))]
      simp
  | y :: l, k + 1, hk, h1, h2 => by
    have h3 := h1 0 (by simp) (by omega)
    simp only [List.getElem_cons_zero] at h3
    have ih := insI_at (x := x) (l := l) (k := k) (by simpa using hk) (fun j h hj => by
      have := h1 (j + 1) (by simpa using h) (by omega)
      simpa using this) (fun h => by
      have := h2 (by simpa using h)
      simpa using this)
    unfold insI
    rw [if_pos h3, ih]
    by_cases e : ∃ h : k < l.length, l[k] = x
    · rw [if_pos e, if_pos (by obtain ⟨h, e⟩ := e; exact ⟨by simpa using h, by simpa using e⟩)]
    · rw [if_neg e, if_neg (by rintro ⟨h, e'⟩; exact e ⟨by simpa using h, by simpa using e'⟩)]
      simp

end Go.Proofs.Ytpddkhhdleknnaa
