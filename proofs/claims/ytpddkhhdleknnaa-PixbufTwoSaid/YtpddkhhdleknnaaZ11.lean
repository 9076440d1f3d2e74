/- Several texts in one, each with its own head. -/
import Derived.Test.YtpddkhhdleknnaaZ4
import Derived.Test.YtpddkhhdleknnaaZ9
import Derived.Test.YtpddkhhdleknnaaZ10
/- Plain facts on rectangles as four whole numbers: what And, Or, In, Has, Area and Shift have to do with each other. -/
namespace Go.Proofs.Ytpddkhhdleknnaa

theorem Rc.eq_of {r s : Rc} (h1 : r.x = s.x) (h2 : r.y = s.y) (h3 : r.a = s.a) (h4 : r.b = s.b) : r = s := by
  cases r; cases s; simp_all
theorem eqR_self (r : Rc) : eqR r r = true := by simp [eqR]
theorem eqR_iff {r s : Rc} : eqR r s = true ↔ r = s := by
  constructor
  · intro h
    have h : r.x = s.x ∧ r.y = s.y ∧ r.a = s.a ∧ r.b = s.b := by simpa [eqR] using h
    exact Rc.eq_of h.1 h.2.1 h.2.2.1 h.2.2.2
  · intro h; subst h; simp [eqR]
theorem emptyR_true {r : Rc} : emptyR r = true ↔ ¬ ((-1048576 ≤ r.x ∧ 0 < r.a ∧ r.a ≤ 1048576 - r.x) ∧ (-1048576 ≤ r.y ∧ 0 < r.b ∧ r.b ≤ 1048576 - r.y)) := by
  rw [← emptyR_false]; cases emptyR r <;> simp
theorem zero_empty : emptyR zeroRc = true := by decide

/-- What two have in common: the zero one, or the rectangle between. -/
theorem and_spec (r s : Rc) :
    (andR r s = zeroRc ∧ (emptyR r = true ∨ emptyR s = true ∨ min (r.x + r.a) (s.x + s.a) ≤ max r.x s.x ∨ min (r.y + r.b) (s.y + s.b) ≤ max r.y s.y)) ∨
    (andR r s = midR r s ∧ emptyR r = false ∧ emptyR s = false ∧ max r.x s.x < min (r.x + r.a) (s.x + s.a) ∧ max r.y s.y < min (r.y + r.b) (s.y + s.b) ∧ emptyR (midR r s) = false) := by
  cases hr : emptyR r
  · cases hs : emptyR s
    · cases hm : emptyR (midR r s)
      · right
        have h := emptyR_false.1 hm
        simp only [midR] at h
        exact ⟨by simp [andR, hr, hs, hm], rfl, rfl, by omega, by omega, rfl⟩
      · left
        have h := emptyR_true.1 hm
        have h1 := emptyR_false.1 hr
        have h2 := emptyR_false.1 hs
        simp only [midR] at h
        refine ⟨by simp [andR, hm], Or.inr (Or.inr ?_)⟩
        omega
    · exact Or.inl ⟨by simp [andR, hs], Or.inr (Or.inl rfl)⟩
  · exact Or.inl ⟨by simp [andR, hr], Or.inl rfl⟩

theorem and_fit (r s : Rc) : Fit (andR r s) := by
  rcases and_spec r s with ⟨e, _⟩ | ⟨e, _, _, _, _, h⟩
  · rw [e]; exact ⟨by decide, by decide⟩
  · have := emptyR_false.1 h
    rw [e]; exact ⟨by omega, by omega⟩

theorem has_iff {r : Rc} {x y : Int} : hasR r x y = true ↔ emptyR r = false ∧ (r.x ≤ x ∧ x < r.x + r.a) ∧ (r.y ≤ y ∧ y < r.y + r.b) := by
  have h1 : hasR r x y = true ↔ goodR r = true ∧ (r.x ≤ x ∧ x < r.x + r.a) ∧ (r.y ≤ y ∧ y < r.y + r.b) := by simp [hasR, wayHas]
  rw [h1, goodR_iff, emptyR_false]
  omega

/-- A pixel is in what two have in common just if both have it. -/
theorem has_and (r s : Rc) (x y : Int) : hasR (andR r s) x y = (hasR r x y && hasR s x y) := by
  rw [Bool.eq_iff_iff, Bool.and_eq_true, has_iff, has_iff, has_iff]
  rcases and_spec r s with ⟨e, h⟩ | ⟨e, hr, hs, h1, h2, h⟩
  · rw [e, zero_empty]
    simp only [Bool.true_eq_false, false_and, false_iff]
    rintro ⟨⟨a1, a2, a3⟩, b1, b2, b3⟩
    rcases h with h | h | h
    · rw [a1] at h; cases h
    · rw [b1] at h; cases h
    · omega
  · rw [e, h, hr, hs]
    simp only [midR, true_and]
    omega

theorem and_comm (r s : Rc) : andR r s = andR s r := by
  rcases and_spec r s with ⟨e, h⟩ | ⟨e, hr, hs, h1, h2, h⟩ <;> rcases and_spec s r with ⟨e', h'⟩ | ⟨e', hr', hs', h1', h2', h''⟩
  · rw [e, e']
  · rcases h with h | h | h
    · rw [hs'] at h; cases h
    · rw [hr'] at h; cases h
    · omega
  · rcases h' with h' | h' | h'
    · rw [hs] at h'; cases h'
    · rw [hr] at h'; cases h'
    · omega
  · rw [e, e']; apply Rc.eq_of <;> simp only [midR] <;> omega

theorem and_zero_left (s : Rc) : andR zeroRc s = zeroRc := by simp [andR, zero_empty]
theorem and_zero_right (s : Rc) : andR s zeroRc = zeroRc := by simp [andR, zero_empty]

theorem and_self (r : Rc) (h : emptyR r = false) : andR r r = r := by
  have h0 := emptyR_false.1 h
  rcases and_spec r r with ⟨e, h'⟩ | ⟨e, _⟩
  · rw [h] at h'
    simp at h'
    omega
  · rw [e]; apply Rc.eq_of <;> simp only [midR] <;> omega

theorem add_sub_back (p q : Int) : p + (q - p) = q := by omega
theorem lt_mm {a b c d : Int} : max a b < min c d ↔ a < c ∧ a < d ∧ b < c ∧ b < d := by omega
theorem le_mm {a b c d : Int} : min c d ≤ max a b ↔ c ≤ a ∨ c ≤ b ∨ d ≤ a ∨ d ≤ b := by omega

/-- Three have a rectangle in common, in whatever order it is asked. -/
def Meet3 (r s t : Rc) : Prop :=
  (r.x < s.x + s.a ∧ r.x < t.x + t.a ∧ s.x < r.x + r.a ∧ s.x < t.x + t.a ∧ t.x < r.x + r.a ∧ t.x < s.x + s.a) ∧
  (r.y < s.y + s.b ∧ r.y < t.y + t.b ∧ s.y < r.y + r.b ∧ s.y < t.y + t.b ∧ t.y < r.y + r.b ∧ t.y < s.y + s.b)

theorem and_left3 (r s t : Rc) :
    (andR (andR r s) t = zeroRc ∧ ¬ (emptyR r = false ∧ emptyR s = false ∧ emptyR t = false ∧ Meet3 r s t)) ∨
    (andR (andR r s) t = midR (midR r s) t ∧ (emptyR r = false ∧ emptyR s = false ∧ emptyR t = false ∧ Meet3 r s t)) := by
  rcases and_spec r s with ⟨e2, h2⟩ | ⟨e2, b1, b2, b3, b4, b5⟩
  · left
    rw [e2, and_zero_left]
    refine ⟨rfl, ?_⟩
    rintro ⟨a1, a2, _, m1, m2⟩
    rw [a1, a2, le_mm, le_mm] at h2
    have := emptyR_false.1 a1
    have := emptyR_false.1 a2
    simp at h2
    omega
  · rw [e2]
    have k1 := emptyR_false.1 b1
    have k2 := emptyR_false.1 b2
    rw [lt_mm] at b3 b4
    rcases and_spec (midR r s) t with ⟨e3, h3⟩ | ⟨e3, c1, c2, c3, c4, c5⟩
    · left
      refine ⟨e3, ?_⟩
      rintro ⟨a1, a2, a3, m1, m2⟩
      have k3 := emptyR_false.1 a3
      rw [b5, a3] at h3
      simp only [midR, add_sub_back, Bool.false_eq_true, false_or] at h3
      rcases h3 with h3 | h3
      · clear m2 b4; omega
      · clear m1 b3; omega
    · right
      refine ⟨e3, b1, b2, c2, ?_, ?_⟩
      · simp only [midR, add_sub_back] at c3
        clear c4 b4; have := emptyR_false.1 c2; omega
      · simp only [midR, add_sub_back] at c4
        clear c3 b3; have := emptyR_false.1 c2; omega

theorem and_right3 (r s t : Rc) :
    (andR r (andR s t) = zeroRc ∧ ¬ (emptyR r = false ∧ emptyR s = false ∧ emptyR t = false ∧ Meet3 r s t)) ∨
    (andR r (andR s t) = midR r (midR s t) ∧ (emptyR r = false ∧ emptyR s = false ∧ emptyR t = false ∧ Meet3 r s t)) := by
  rcases and_spec s t with ⟨e2, h2⟩ | ⟨e2, b1, b2, b3, b4, b5⟩
  · left
    rw [e2, and_zero_right]
    refine ⟨rfl, ?_⟩
    rintro ⟨_, a1, a2, m1, m2⟩
    rw [a1, a2, le_mm, le_mm] at h2
    have := emptyR_false.1 a1
    have := emptyR_false.1 a2
    simp at h2
    omega
  · rw [e2]
    have k1 := emptyR_false.1 b1
    have k2 := emptyR_false.1 b2
    rw [lt_mm] at b3 b4
    rcases and_spec r (midR s t) with ⟨e3, h3⟩ | ⟨e3, c1, c2, c3, c4, c5⟩
    · left
      refine ⟨e3, ?_⟩
      rintro ⟨a1, a2, a3, m1, m2⟩
      have k3 := emptyR_false.1 a1
      rw [b5, a1] at h3
      simp only [midR, add_sub_back, Bool.false_eq_true, false_or] at h3
      rcases h3 with h3 | h3
      · clear m2 b4; omega
      · clear m1 b3; omega
    · right
      refine ⟨e3, c1, b1, b2, ?_, ?_⟩
      · simp only [midR, add_sub_back] at c3
        clear c4 b4; have := emptyR_false.1 c1; omega
      · simp only [midR, add_sub_back] at c4
        clear c3 b3; have := emptyR_false.1 c1; omega

theorem and_assoc' (r s t : Rc) : andR r (andR s t) = andR (andR r s) t := by
  rcases and_left3 r s t with ⟨e1, h1⟩ | ⟨e1, h1⟩ <;> rcases and_right3 r s t with ⟨e2, h2⟩ | ⟨e2, h2⟩
  · rw [e1, e2]
  · exact absurd h2 h1
  · exact absurd h1 h2
  · rw [e1, e2]
    simp only [midR, add_sub_back]
    rw [Int.max_assoc, Int.max_assoc, Int.min_assoc, Int.min_assoc]

/-- One has the other: none has pixels, or the numbers tell it. -/
theorem in_iff {r s : Rc} : inR r s = true ↔ emptyR r = true ∨ (emptyR r = false ∧ emptyR s = false ∧ s.x ≤ r.x ∧ r.x + r.a ≤ s.x + s.a ∧ s.y ≤ r.y ∧ r.y + r.b ≤ s.y + s.b) := by
  unfold inR
  rw [Bool.or_eq_true, eqR_iff]
  cases hr : emptyR r
  · have h0 := emptyR_false.1 hr
    simp only [Bool.false_eq_true, false_or, true_and]
    rcases and_spec r s with ⟨e, h⟩ | ⟨e, _, hs, h1, h2, h⟩
    · rw [e]
      constructor
      · intro hz; rw [← hz, zero_empty] at hr; cases hr
      · rintro ⟨hs, a1, a2, a3, a4⟩
        rw [hr, hs] at h
        simp at h
        have := emptyR_false.1 hs
        omega
    · rw [e, hs]
      constructor
      · intro hz
        have e1 : (midR r s).x = r.x := by rw [hz]
        have e2 : (midR r s).y = r.y := by rw [hz]
        have e3 : (midR r s).a = r.a := by rw [hz]
        have e4 : (midR r s).b = r.b := by rw [hz]
        simp only [midR] at e1 e2 e3 e4
        refine ⟨rfl, by omega, by omega, by omega, by omega⟩
      · rintro ⟨_, a1, a2, a3, a4⟩
        apply Rc.eq_of <;> simp only [midR] <;> omega
  · simp

theorem in_self (r : Rc) : inR r r = true := by
  rw [in_iff]
  cases hr : emptyR r
  · right; exact ⟨rfl, rfl, by omega, by omega, by omega, by omega⟩
  · left; rfl

theorem in_trans {r s t : Rc} (h1 : inR r s = true) (h2 : inR s t = true) : inR r t = true := by
  rw [in_iff] at *
  rcases h1 with h1 | ⟨a1, a2, a3⟩
  · exact Or.inl h1
  · rcases h2 with h2 | ⟨b1, b2, b3⟩
    · rw [a2] at h2; cases h2
    · exact Or.inr ⟨a1, b2, by omega, by omega, by omega, by omega⟩

theorem area_zero {r : Rc} (h : emptyR r = true) : areaR r = 0 := by simp [areaR, h]
theorem area_full {r : Rc} (h : emptyR r = false) : areaR r = r.a * r.b := by simp [areaR, h]
theorem area_nonneg (r : Rc) : 0 ≤ areaR r := by
  cases h : emptyR r
  · have := emptyR_false.1 h
    rw [area_full h]; exact Int.mul_nonneg (by omega) (by omega)
  · rw [area_zero h]; exact Int.le_refl 0
theorem area_pos {r : Rc} (h : emptyR r = false) : 0 < areaR r := by
  have := emptyR_false.1 h
  rw [area_full h]; exact Int.mul_pos (by omega) (by omega)

theorem area_mono {r s : Rc} (h : inR r s = true) : areaR r ≤ areaR s := by
  rw [in_iff] at h
  rcases h with h | ⟨a1, a2, a3⟩
  · rw [area_zero h]; exact area_nonneg s
  · have h1 := emptyR_false.1 a1
    have h2 := emptyR_false.1 a2
    rw [area_full a1, area_full a2]
    exact Int.mul_le_mul (by omega) (by omega) (by omega) (by omega)

end Go.Proofs.Ytpddkhhdleknnaa

/- The contracts of package rect's functions that answer a bool, with the bool named. -/
namespace Go.Proofs.Ytpddkhhdleknnaa
open Go.RowKit

theorem in_eq {b : Bool} (r s : Rc) (w : World) (h : inR r s = b) (hfr : Fit r) (hfs : Fit s) : Makes Try.prog 54 #[RV r, RV s] w (.bool b) := h ▸ in_any r s w hfr hfs
theorem empty_eq {b : Bool} (r : Rc) (w : World) (h : emptyR r = b) (hfr : Fit r) : Makes Try.prog 64 #[RV r] w (.bool b) := h ▸ empty_any r w hfr
theorem has_eq {b : Bool} (r : Rc) (x y : Int) (w : World) (h : hasR r x y = b) (hfr : Fit r) : Makes Try.prog 53 #[RV r, .int .i64 x, .int .i64 y] w (.bool b) := h ▸ has_any r x y w hfr
theorem good_eq {b : Bool} (r : Rc) (w : World) (h : goodR r = b) (hfr : Fit r) : Makes Try.prog 98 #[RV r] w (.bool b) := h ▸ good_any r w hfr
theorem shift_eq {s : Rc} (r : Rc) (x y : Int) (w : World) (h : shiftR r x y = s) (hfr : Fit r) : Makes Try.prog 74 #[RV r, .int .i64 x, .int .i64 y] w (RV s) := h ▸ shift_any r x y w hfr

theorem Lies.rules {W : World} {B : Nat} {r : Rc} (h : Lies W B r) : (∀ n : After W, n.world.cell? ⟨B, 0, none⟩ = some (.int .i64 r.x)) ∧ (∀ n : After W, n.world.cell? ⟨B, 1, none⟩ = some (.int .i64 r.y)) ∧ (∀ n : After W, n.world.cell? ⟨B, 2, none⟩ = some (.int .i64 r.a)) ∧ (∀ n : After W, n.world.cell? ⟨B, 3, none⟩ = some (.int .i64 r.b)) :=
  ⟨After.rule h.c0, After.rule h.c1, After.rule h.c2, After.rule h.c3⟩

/-- The cells of a rectangle that is boxed. -/
abbrev RO (r : Rc) : Obj := .cells #[.int .i64 r.x, .int .i64 r.y, .int .i64 r.a, .int .i64 r.b] 30

end Go.Proofs.Ytpddkhhdleknnaa

/- pixbuf's allIn, Part, At. -/
namespace Go.Proofs.Ytpddkhhdleknnaa
open Go.RowKit

/-- A picture and a number, as results: the picture read out of its cells. -/
theorem results_iv2 {fn : Func} {p u : Tmp} {tmps : Array Value} {w : World} {B : Nat} {wd ht : Int} {sv v : Value} (h : fn.results = #[.cell p 39, .tmp u]) (hp : tmps.getD p undef = .pointer (some ⟨B, 0, none⟩)) (hu : tmps.getD u undef = v) (hl : w.heap[B]? = some (.cells #[.int .i64 wd, .int .i64 ht, sv] 39)) :
    (results fn tmps).run Try.prog w = .ok (.tuple #[IV wd ht sv, v]) w := by
  have hp' : tmps[p]?.getD undef = .pointer (some ⟨B, 0, none⟩) := by simpa using hp
  have hu' : tmps[u]?.getD undef = v := by simpa using hu
  have c0 : w.cell? ⟨B, 0, none⟩ = some (.int .i64 wd) := by simp [World.cell?, hl]
  have c1 : w.cell? ⟨B, 1, none⟩ = some (.int .i64 ht) := by simp [World.cell?, hl]
  have c2 : w.cell? ⟨B, 2, none⟩ = some sv := by simp [World.cell?, hl]
  simp [results, h, hp', hu', go_sem, c0, c1, c2]

/-- Has it pixels, and a picture them all? -/
def allInB (r : Rc) (wd ht : Int) : Bool := !emptyR r && inR r ⟨0, 0, wd, ht⟩

set_option maxHeartbeats 1000000 in
theorem allIn_any (r : Rc) (wd ht : Nat) (sv : Value) (w : World) (hf : Fit r) : Makes Try.prog 87 #[RV r, IV wd ht sv] w (.bool (allInB r wd ht)) := by
  unfold Makes
  have hfw : Fit ⟨0, 0, (wd : Int), (ht : Int)⟩ := ⟨show (0 : Int) ≤ 9223372036854775807 by decide, show (0 : Int) ≤ 9223372036854775807 by decide⟩
  obtain ⟨IN, hIN⟩ : ∃ b, inR r ⟨0, 0, (wd : Int), (ht : Int)⟩ = b := ⟨_, rfl⟩
  cases he : emptyR r
  all_goals
    have Hres := Lib.hid (show allInB r wd ht = (!emptyR r && IN) by rw [allInB, hIN])
    have hgB := heap_pushed [.cells #[.int .i64 r.x, .int .i64 r.y, .int .i64 r.a, .int .i64 r.b] 30, .cells #[.int .i64 (wd : Int), .int .i64 (ht : Int), sv] 39] w
    simp only [List.foldl_cons, List.foldl_nil] at hgB
    have bi : Im3 ((w.alloc (.cells #[.int .i64 r.x, .int .i64 r.y, .int .i64 r.a, .int .i64 r.b] 30)).alloc (.cells #[.int .i64 (wd : Int), .int .i64 (ht : Int), sv] 39)) (w.heap.size + 1) wd ht sv := (hgB 1 _).2 rfl
    have lr : Lies ((w.alloc (.cells #[.int .i64 r.x, .int .i64 r.y, .int .i64 r.a, .int .i64 r.b] 30)).alloc (.cells #[.int .i64 (wd : Int), .int .i64 (ht : Int), sv] 39)) w.heap.size r := (Lies.new rfl).later (Below.al1 _ _)
    have hal := Below.al2 w (.cells #[.int .i64 r.x, .int .i64 r.y, .int .i64 r.a, .int .i64 r.b] 30) (.cells #[.int .i64 (wd : Int), .int .i64 (ht : Int), sv] 39)
    have Hal := Lib.hid hal
    clear hgB hal
    go_enter Try.func87, Try.ntmps87
    go_upto_region 1 with (fail)
    generalize ((w.alloc (.cells #[.int .i64 r.x, .int .i64 r.y, .int .i64 r.a, .int .i64 r.b] 30)).alloc (.cells #[.int .i64 (wd : Int), .int .i64 (ht : Int), sv] 39)) = W at *
    have hne := After.ne W
    obtain ⟨l0, l1, l2, l3⟩ := lr.rules
    have k0 := After.rule bi.cells.1
    have k1 := After.rule bi.cells.2.1
    have k2 := After.rule bi.cells.2.2
    have He := Lib.hid he
    have HIN := Lib.hid hIN
    clear lr bi he hIN
    refine wp_region_after (by kernel_rfl) (by kernel_rfl) ?_
    repeat (go_big_quiet_step (first | (go_at_call 64; exact Makes.after (empty_eq r _ He.out hf)) | (go_at_call 81; exact Makes.after (whole_any _ _ _ _)) | (go_at_call 54; exact Makes.after (in_eq r _ _ HIN.out hf hfw))))
    refine wpQuiet_nil ?_
    rintro _ ⟨nq, rfl⟩
    have Hn := Lib.hid nq.below
    go_wp2
    go_ret
    exact ⟨ret_bool (by rw [Hres.out, He.out]; simp), Hal.out.trans (Hn.out.mono Hal.out.size)⟩

/-- A rectangle that is all in the picture: natural numbers. -/
theorem allInB_true {r : Rc} {wd ht : Nat} (h : allInB r wd ht = true) : ∃ px py aw ah : Nat, r = ⟨px, py, aw, ah⟩ ∧ 1 ≤ aw ∧ 1 ≤ ah ∧ px + aw ≤ wd ∧ py + ah ≤ ht := by
  simp only [allInB, Bool.and_eq_true, Bool.not_eq_true'] at h
  have h1 := emptyR_false.1 h.1
  rcases in_iff.1 h.2 with h2 | ⟨-, -, h3, h4, h5, h6⟩
  · rw [h.1] at h2; cases h2
  · simp only at h3 h4 h5 h6
    refine ⟨r.x.toNat, r.y.toNat, r.a.toNat, r.b.toNat, ?_, by omega, by omega, by omega, by omega⟩
    obtain ⟨rx, ry, ra, rb⟩ := r
    simp only at h1 h3 h4 h5 h6
    simp only [Rc.mk.injEq]
    omega

/-- What both ways of Part begin with. -/
theorem allIn_eq {t : Bool} (r : Rc) (wd ht : Nat) (sv : Value) (w : World) (h : allInB r wd ht = t) (hf : Fit r) : Makes Try.prog 87 #[RV r, IV wd ht sv] w (.bool t) := h ▸ allIn_any r wd ht sv w hf

set_option maxHeartbeats 2000000 in
theorem part_no (B wd ht g : Nat) (L : List Int) (r : Rc) (w : World) (h : BufAt w B wd ht g L) (hf : Fit r) (hno : allInB r wd ht = false) :
    Makes Try.prog 42 #[.pointer (some ⟨B, 0, none⟩), RV r] w (.tuple #[IV 0 0 (.slice none 0 0), .int .i64 5]) := by
  unfold Makes
  have hgB := heap_pushed [.cells #[.int .i64 r.x, .int .i64 r.y, .int .i64 r.a, .int .i64 r.b] 30, .cells #[.int .i64 0, .int .i64 0, .slice none 0 0] 39] w
  simp only [List.foldl_cons, List.foldl_nil] at hgB
  have hal := Below.al2 w (.cells #[.int .i64 r.x, .int .i64 r.y, .int .i64 r.a, .int .i64 r.b] 30) (.cells #[.int .i64 0, .int .i64 0, .slice none 0 0] 39)
  have br : Im3 ((w.alloc (.cells #[.int .i64 r.x, .int .i64 r.y, .int .i64 r.a, .int .i64 r.b] 30)).alloc (.cells #[.int .i64 0, .int .i64 0, .slice none 0 0] 39)) (w.heap.size + 1) 0 0 (.slice none 0 0) := (hgB 1 _).2 rfl
  have lr : Lies ((w.alloc (.cells #[.int .i64 r.x, .int .i64 r.y, .int .i64 r.a, .int .i64 r.b] 30)).alloc (.cells #[.int .i64 0, .int .i64 0, .slice none 0 0] 39)) w.heap.size r := (Lies.new rfl).later (Below.al1 _ _)
  have h0 := h.later hal
  have Hal := Lib.hid hal
  clear hgB hal h
  go_enter Try.func42, Try.ntmps42
  go_upto_region 3 with (fail)
  generalize ((w.alloc (.cells #[.int .i64 r.x, .int .i64 r.y, .int .i64 r.a, .int .i64 r.b] 30)).alloc (.cells #[.int .i64 0, .int .i64 0, .slice none 0 0] 39)) = W at *
  have hne := After.ne W
  obtain ⟨l0, l1, l2, l3⟩ := lr.rules
  have k0 := After.rule h0.three.1
  have k1 := After.rule h0.three.2.1
  have k2 := After.rule h0.three.2.2
  have Hno := Lib.hid hno
  have Hbr := Lib.hid br
  clear lr h0 hno br
  refine wp_region_after (by kernel_rfl) (by kernel_rfl) ?_
  repeat (go_big_quiet_step ((go_at_call 87; exact Makes.after (allIn_eq r wd ht _ _ Hno.out hf))))
  refine wpQuiet_nil ?_
  rintro _ ⟨nq, rfl⟩
  have br2 := Hbr.out.later nq.below
  obtain ⟨d0, d1, d2⟩ := br2.cells
  have f0 := br2.free 0
  have f1 := br2.free 1
  have f2 := br2.free 2
  have Hres := Lib.hid (br2.set 0 0 (.slice none 0 0))
  have Hbel := Lib.hid (Hal.out.trans (nq.below.mono Hal.out.size))
  clear l0 l1 l2 l3 k0 k1 k2 hne br2
  go_wp2
  exact bodyPost_ret (v := .tuple #[IV 0 0 (.slice none 0 0), .int .i64 5]) (results_iv2 (B := w.heap.size + 1) Try.results42 rfl rfl Hres.out) rfl ⟨rfl, Hbel.out.trans ((below_set3 _ _ _).mono (by omega))⟩

set_option maxHeartbeats 2000000 in
theorem part_yes (B wd ht g px py aw ah : Nat) (L : List Int) (w : World) (h : BufAt w B wd ht g L) (ha : 1 ≤ aw) (hh : 1 ≤ ah) (h1 : px + aw ≤ wd) (h2 : py + ah ≤ ht) :
    Calls Try.prog 42 #[.pointer (some ⟨B, 0, none⟩), RV ⟨px, py, aw, ah⟩] w fun e w' => ∃ g', e = .returned (.tuple #[IV aw ah (.slice (some ⟨g', 0, none⟩) (aw * ah) (aw * ah)), .int .i64 0]) ∧ w.heap.size ≤ g' ∧ Pix w' g' (cutL wd px py aw ah L) ∧ Below w.heap.size w w' := by
  have hw := h.wd1
  have hht := h.ht1
  have hlen := h.len
  have hf : Fit ⟨px, py, aw, ah⟩ := ⟨show (px : Int) ≤ 9223372036854775807 by omega, show (py : Int) ≤ 9223372036854775807 by omega⟩
  have hyes : allInB ⟨px, py, aw, ah⟩ wd ht = true := by
    have he : emptyR ⟨px, py, aw, ah⟩ = false := emptyR_false.2 (by simp only; omega)
    have he2 : emptyR ⟨0, 0, (wd : Int), (ht : Int)⟩ = false := emptyR_false.2 (by simp only; omega)
    rw [allInB, he, in_iff.2 (.inr ⟨he, he2, by simp only; omega, by simp only; omega, by simp only; omega, by simp only; omega⟩)]; rfl
  have hfit := h.fit h1 h2
  have hgB := heap_pushed [.cells #[.int .i64 (px : Int), .int .i64 (py : Int), .int .i64 (aw : Int), .int .i64 (ah : Int)] 30, .cells #[.int .i64 0, .int .i64 0, .slice none 0 0] 39] w
  simp only [List.foldl_cons, List.foldl_nil] at hgB
  have hal := Below.al2 w (.cells #[.int .i64 (px : Int), .int .i64 (py : Int), .int .i64 (aw : Int), .int .i64 (ah : Int)] 30) (.cells #[.int .i64 0, .int .i64 0, .slice none 0 0] 39)
  have br : Im3 ((w.alloc (.cells #[.int .i64 (px : Int), .int .i64 (py : Int), .int .i64 (aw : Int), .int .i64 (ah : Int)] 30)).alloc (.cells #[.int .i64 0, .int .i64 0, .slice none 0 0] 39)) (w.heap.size + 1) 0 0 (.slice none 0 0) := (hgB 1 _).2 rfl
  have lr : Lies ((w.alloc (.cells #[.int .i64 (px : Int), .int .i64 (py : Int), .int .i64 (aw : Int), .int .i64 (ah : Int)] 30)).alloc (.cells #[.int .i64 0, .int .i64 0, .slice none 0 0] 39)) w.heap.size ⟨px, py, aw, ah⟩ := (Lies.new (r := ⟨px, py, aw, ah⟩) rfl).later (Below.al1 _ _)
  have h0 := h.later hal
  have Hal := Lib.hid hal
  have Hu := Lib.hid h.u
  clear hgB hal h
  go_enter Try.func42, Try.ntmps42
  go_upto_region 3 with (fail)
  generalize ((w.alloc (.cells #[.int .i64 (px : Int), .int .i64 (py : Int), .int .i64 (aw : Int), .int .i64 (ah : Int)] 30)).alloc (.cells #[.int .i64 0, .int .i64 0, .slice none 0 0] 39)) = W at *
  have hne := After.ne W
  obtain ⟨l0, l1, l2, l3⟩ := lr.rules
  have k0 := After.rule h0.three.1
  have k1 := After.rule h0.three.2.1
  have k2 := After.rule h0.three.2.2
  have Hyes := Lib.hid hyes
  have Hbr := Lib.hid br
  have Hlr := Lib.hid lr
  have H0 := Lib.hid h0
  clear lr h0 hyes br
  refine wp_region_after (by kernel_rfl) (by kernel_rfl) ?_
  repeat (go_big_quiet_step ((go_at_call 87; exact Makes.after (allIn_eq ⟨px, py, aw, ah⟩ wd ht _ _ Hyes.out hf))))
  refine wpQuiet_nil ?_
  rintro _ ⟨nq, rfl⟩
  have hbq := nq.below
  have br2 := Hbr.out.later hbq
  have lr2 := Hlr.out.later hbq
  have b2 := H0.out.later hbq
  have Hbel2 := Lib.hid (Hal.out.trans (hbq.mono Hal.out.size))
  clear l0 l1 l2 l3 k0 k1 k2 hne hbq
  generalize nq.world = W2 at *
  go_upto_region 5 with (fail)
  have hne := After.ne W2
  obtain ⟨l0, l1, l2, l3⟩ := lr2.rules
  have k0 := After.rule b2.three.1
  have k1 := After.rule b2.three.2.1
  have k2 := After.rule b2.three.2.2
  have Hbr2 := Lib.hid br2
  have Hb2 := Lib.hid b2
  clear br2 lr2 b2
  refine wp_region_head 5 (by kernel_rfl) (by kernel_rfl) (by kernel_rfl) ?_
  repeat (refine Lq_step (fun K hK => ?_); go_simp; first | (refine hK _ ?_; clear hK K) | (apply Exists.intro; refine ⟨fun n => ?_, hK _ ?_⟩; fail))
  refine Lq_nil ?_
  intro w3 hb3
  clear l0 l1 l2 l3 k0 k1 k2 hne
  have b3 := Hb2.out.later hb3
  have hco := cutOut_any wd ht px py aw ah g 0 L.length L.length L w3 b3.pix.row rfl (Nat.le_refl _) (by omega) Hu.out.u32 (by omega) (by omega) (by omega) (by omega) (by omega) hfit
  have Hb03 := Lib.hid (Hbel2.out.trans (hb3.mono Hbel2.out.size))
  have Hbr3 := Lib.hid (Hbr2.out.later hb3)
  clear hb3 b3
  go_wp2_with fail
  refine Calls.mono hco ?_
  rintro e w4 ⟨g', rfl, hg, hP, hb4⟩
  have br4 := Hbr3.out.later hb4
  have hlt3 := Hbr3.out.lt
  obtain ⟨d0, d1, d2⟩ := br4.cells
  have f0 := br4.free 0
  have f1 := br4.free 1
  have f2 := br4.free 2
  have Hres := Lib.hid (br4.set aw ah (.slice (some ⟨g', 0, none⟩) (aw * ah) (aw * ah)))
  have HP := Lib.hid hP
  have Hbel := Lib.hid (Hb03.out.trans (hb4.mono Hb03.out.size))
  have hgn : g' ≠ w.heap.size + 1 := by omega
  have hgs := Hb03.out.size
  clear hco hP hb4 br4
  go_wp2
  refine bodyPost_ret (v := .tuple #[IV aw ah (.slice (some ⟨g', 0, none⟩) (aw * ah) (aw * ah)), .int .i64 0]) (results_iv2 (B := w.heap.size + 1) Try.results42 rfl rfl Hres.out) rfl ⟨g', rfl, by omega, ?_, Hbel.out.trans ((below_set3 _ _ _).mono (by omega))⟩
  exact HP.out.same (((Below.heap_setCell _ _ _ _ (fun e => hgn e)).trans (Below.heap_setCell _ _ _ _ (fun e => hgn e))).trans (Below.heap_setCell _ _ _ _ (fun e => hgn e)))

end Go.Proofs.Ytpddkhhdleknnaa
