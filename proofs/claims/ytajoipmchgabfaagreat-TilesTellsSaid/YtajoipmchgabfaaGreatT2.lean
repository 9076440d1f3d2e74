/- Several texts in one, each with its own head. -/
import Derived.Test.YtajoipmchgabfaaGreatT1
/- The walks of package rect's And, Or and In: what each call answers. -/
namespace Go.Proofs.YtajoipmchgabfaaGreat
open Go.RowKit

theorem ret_two {a b c d : Int} (h : a = b) (h' : c = d) : Ending.returned (.tuple #[.int .i64 a, .int .i64 c]) = .returned (.tuple #[.int .i64 b, .int .i64 d]) := by rw [h, h']

def midR (r s : Rc) : Rc := ⟨max r.x s.x, max r.y s.y, min (r.x + r.a) (s.x + s.a) - max r.x s.x, min (r.y + r.b) (s.y + s.b) - max r.y s.y⟩
def andR (r s : Rc) : Rc := if emptyR r = true then zeroRc else if emptyR s = true then zeroRc else if emptyR (midR r s) = true then zeroRc else midR r s
def allR (r s : Rc) : Rc := ⟨min r.x s.x, min r.y s.y, max (r.x + r.a) (s.x + s.a) - min r.x s.x, max (r.y + r.b) (s.y + s.b) - min r.y s.y⟩
def orR (r s : Rc) : Rc := if emptyR r = true then (if emptyR s = true then zeroRc else s) else if emptyR s = true then r else allR r s
def eqR (r s : Rc) : Bool := decide (r.x = s.x ∧ r.y = s.y ∧ r.a = s.a ∧ r.b = s.b)
def inR (r s : Rc) : Bool := emptyR r || eqR (andR r s) r

theorem good_of_empty {r : Rc} (h : emptyR r = false) : goodR r = true := by
  unfold emptyR at h
  cases hg : goodR r
  · rw [hg] at h; simp at h
  · rfl
theorem emptyR_false {r : Rc} : emptyR r = false ↔ (-1048576 ≤ r.x ∧ 0 < r.a ∧ r.a ≤ 1048576 - r.x) ∧ (-1048576 ≤ r.y ∧ 0 < r.b ∧ r.b ≤ 1048576 - r.y) := by
  have : emptyR r = false ↔ goodR r = true ∧ fullR r = true := by simp [emptyR]
  rw [this, goodR_iff]
  simp [fullR, wayFull]
  omega
theorem midR_fit {r s : Rc} (hr : goodR r = true) (hs : goodR s = true) : Fit (midR r s) := by
  have := goodR_iff.1 hr
  have := goodR_iff.1 hs
  constructor <;> simp only [midR] <;> omega

set_option maxHeartbeats 400000 in
theorem between_any2 (F : FuncId) (q1 q2 : Value) (f0 e0 f1 e1 : Int) (w : World) (hF : Enters Tryz.prog F) (h0 : ∀ w1, Below w.heap.size w w1 → Makes Tryz.prog F #[.int .i64 0, q1, q2] w1 (.tuple #[.int .i64 f0, .int .i64 e0])) (h1 : ∀ w1, Below w.heap.size w w1 → Makes Tryz.prog F #[.int .i64 1, q1, q2] w1 (.tuple #[.int .i64 f1, .int .i64 e1]))
    (b1 : -9223372036854775808 ≤ e0 - f0) (b2 : e0 - f0 ≤ 9223372036854775807) (b3 : -9223372036854775808 ≤ e1 - f1) (b4 : e1 - f1 ≤ 9223372036854775807) :
    Makes Tryz.prog 45 #[.func (.func F) #[] #[q1, q2]] w (RV ⟨f0, f1, e0 - f0, e1 - f1⟩) := by
  unfold Makes
  have H0 := Lib.hid h0
  have H1 := Lib.hid h1
  clear h0 h1
  unfold Enters at hF
  go_enter Tryz.func45, Tryz.ntmps45
  go_wp2_with fail
  refine Calls.mono (H0.out _ (Below.al1 _ _)) ?_
  rintro e w1 ⟨rfl, hb1⟩
  go_wp2_with fail
  refine Calls.mono (H1.out _ (Below.thn (Below.al1 _ _) hb1)) ?_
  rintro e w2 ⟨rfl, hb2⟩
  have hrm : Room w2 w.heap.size := ((Room.new rfl).later hb1).later hb2
  have hbw2 : Below w.heap.size w w2 := Below.thn (Below.thn (Below.al1 _ _) hb1) hb2
  have Hrm := Lib.hid hrm
  obtain ⟨rc0, rc1, rc2, rc3, rf0, rf1, rf2, rf3⟩ := hrm
  go_wp2
  exact bodyPost_ret (v := RV ⟨f0, f1, e0 - f0, e1 - f1⟩) (results_rc Tryz.results45 rfl (Lies.stored Hrm.out ⟨f0, f1, e0 - f0, e1 - f1⟩)) rfl ⟨rfl, hbw2.trans ((Below.stored ⟨f0, f1, e0 - f0, e1 - f1⟩).mono (by omega))⟩

set_option maxHeartbeats 400000 in
theorem and1_any (k : Int) (r s : Rc) (B C : Nat) (w : World) (hgr : goodR r = true) (hgs : goodR s = true) (hl : Lies w B r) (hm : Lies w C s) :
    Makes Tryz.prog 46 #[.int .i64 k, .pointer (some ⟨B, 0, none⟩), .pointer (some ⟨C, 0, none⟩)] w
      (.tuple #[.int .i64 (max (pickI k r.x r.y) (pickI k s.x s.y)), .int .i64 (min (pickI k r.x r.y + pickI k r.a r.b) (pickI k s.x s.y + pickI k s.a s.b))]) := by
  unfold Makes
  obtain ⟨g1, g2, g3⟩ := wayGood_pick hgr k
  obtain ⟨g4, g5, g6⟩ := wayGood_pick hgs k
  clear hgr hgs
  have HM := Lib.hid hm
  clear hm
  obtain ⟨hc0, hc1, hc2, hc3⟩ := hl
  go_enter Tryz.func46, Tryz.ntmps46
  go_wp2_with fail
  refine Calls.mono (ends_any _ _ _ _ _ _ (by omega) (by omega)) ?_
  rintro e w' ⟨rfl, hb⟩
  obtain ⟨hd0, hd1, hd2, hd3⟩ := HM.out.later hb
  go_wp2_with fail
  refine Calls.mono (ends_any _ _ _ _ _ _ (by omega) (by omega)) ?_
  rintro e w'' ⟨rfl, hb2⟩
  go_wp2
  all_goals (go_ret2; exact ⟨ret_two (by omega) (by omega), Below.thn hb hb2⟩)

set_option maxHeartbeats 800000 in
theorem and_any (r s : Rc) (w : World) (hfr : Fit r) (hfs : Fit s) : Makes Tryz.prog 32 #[RV r, RV s] w (RV (andR r s)) := by
  unfold Makes
  have hmf : ∀ (fn : Fn) (first cap : Array Value) (w : World), (Instr.makeFunc fn first cap).run Tryz.prog w = .ok (.func fn first cap) w := fun _ _ _ _ => rfl
  go_enter Tryz.func32, Tryz.ntmps32
  go_wp2_with fail
  refine Calls.mono (empty_any _ _ hfr) ?_
  rintro e w1 ⟨rfl, hb1⟩
  have hbw : Below w.heap.size w w1 := Below.thn (Below.al3 _ _ _ _) hb1
  have hl : Lies w1 w.heap.size r := (Lies.new rfl).later (Below.thn (Below.al2 _ _ _) hb1)
  have hm : Lies w1 (w.heap.size + 1) s := (Lies.new (by simp)).later (Below.thn (Below.al1 _ _) hb1)
  have hrm : Room w1 (w.heap.size + 1 + 1) := (Room.new (by simp)).later hb1
  cases her : emptyR r
  · have Her := Lib.hid her
    clear her
    have HL := Lib.hid hl
    have HM := Lib.hid hm
    have Hrm := Lib.hid hrm
    clear hrm hl
    obtain ⟨d0, d1, d2, d3⟩ := hm
    go_wp2_with fail
    refine Calls.mono (empty_any _ _ hfs) ?_
    rintro e w2 ⟨rfl, hb2⟩
    have hbw2 := Below.thn hbw hb2
    clear d0 d1 d2 d3
    cases hes : emptyR s
    · have Hes := Lib.hid hes
      clear hes
      have hgr := good_of_empty Her.out
      have hgs := good_of_empty Hes.out
      have G := goodR_iff.1 hgr
      have G' := goodR_iff.1 hgs
      have HG := Lib.hid G
      have HG' := Lib.hid G'
      clear G G'
      have Hgr := Lib.hid hgr
      have Hgs := Lib.hid hgs
      clear hgr hgs
      go_wp2_with fail
      refine Calls.mono (between_any2 _ _ _ (max r.x s.x) (min (r.x + r.a) (s.x + s.a)) (max r.y s.y) (min (r.y + r.b) (s.y + s.b)) _ (enters_of Tryz.func46 (by kernel_rfl) rfl) ?_ ?_ ?_ ?_ ?_ ?_) ?_
      · intro w3 hb3
        exact and1_any 0 r s _ _ w3 Hgr.out Hgs.out ((HL.out.later hb2).later hb3) ((HM.out.later hb2).later hb3)
      · intro w3 hb3
        exact and1_any 1 r s _ _ w3 Hgr.out Hgs.out ((HL.out.later hb2).later hb3) ((HM.out.later hb2).later hb3)
      · have := HG.out; have := HG'.out; omega
      · have := HG.out; have := HG'.out; omega
      · have := HG.out; have := HG'.out; omega
      · have := HG.out; have := HG'.out; omega
      rintro e w3 ⟨rfl, hb3⟩
      have hbw3 := Below.thn hbw2 hb3
      go_wp2_with fail
      refine Calls.mono (empty_any (midR r s) _ (midR_fit Hgr.out Hgs.out)) ?_
      rintro e w4 ⟨rfl, hb4⟩
      have hbw4 := Below.thn hbw3 (Below.thn (Below.al1 _ _) hb4)
      have hmid : Lies w4 w3.heap.size (midR r s) := (Lies.new (r := midR r s) rfl).later hb4
      have hrm4 := ((Hrm.out.later hb2).later hb3).later (Below.thn (Below.al1 _ _) hb4)
      have Hrm4 := Lib.hid hrm4
      obtain ⟨rc0, rc1, rc2, rc3, rf0, rf1, rf2, rf3⟩ := hrm4
      obtain ⟨m0, m1, m2, m3⟩ := hmid
      cases hem : emptyR (midR r s)
      · have Hem := Lib.hid hem
        clear hem
        go_wp2
        exact bodyPost_ret (v := RV (midR r s)) (results_rc Tryz.results32 rfl (Lies.stored Hrm4.out (midR r s))) rfl ⟨by simp [andR, Her.out, Hes.out, Hem.out], hbw4.trans ((Below.stored (midR r s)).mono (by omega))⟩
      · have Hem := Lib.hid hem
        clear hem
        go_wp2
        exact bodyPost_ret (v := RV zeroRc) (results_rc Tryz.results32 rfl (Lies.stored Hrm4.out zeroRc)) rfl ⟨by simp [andR, Hem.out], hbw4.trans ((Below.stored zeroRc).mono (by omega))⟩
    · have Hes := Lib.hid hes
      clear hes
      have hrm2 := Hrm.out.later hb2
      have Hrm2 := Lib.hid hrm2
      obtain ⟨rc0, rc1, rc2, rc3, rf0, rf1, rf2, rf3⟩ := hrm2
      go_wp2
      exact bodyPost_ret (v := RV zeroRc) (results_rc Tryz.results32 rfl (Lies.stored Hrm2.out zeroRc)) rfl ⟨by simp [andR, Hes.out], hbw2.trans ((Below.stored zeroRc).mono (by omega))⟩
  · have Her := Lib.hid her
    have Hrm := Lib.hid hrm
    clear her hl hm
    obtain ⟨rc0, rc1, rc2, rc3, rf0, rf1, rf2, rf3⟩ := hrm
    go_wp2
    exact bodyPost_ret (v := RV zeroRc) (results_rc Tryz.results32 rfl (Lies.stored Hrm.out zeroRc)) rfl ⟨by simp [andR, Her.out], hbw.trans ((Below.stored zeroRc).mono (by omega))⟩

end Go.Proofs.YtajoipmchgabfaaGreat

/- Rectangles compared as structs: what '==' and '!=' give. -/
namespace Go.Proofs.YtajoipmchgabfaaGreat
open Go.RowKit

theorem rc_stood : Tryz.prog.stoodInHeld 37 = false := by kernel_rfl
theorem rc_guard : Tryz.prog.eqGuardType Tryz.prog.depth 37 = false := by kernel_rfl
theorem rc_fields : Tryz.prog.underlying 37 = some (.struct (Tryz.prog.fieldsOf 37)) := by kernel_rfl

theorem eqR_eq (r s : Rc) : (r.x == s.x && (r.y == s.y && (r.a == s.a && r.b == s.b))) = eqR r s := by
  rw [Bool.eq_iff_iff]; simp [eqR]

theorem guard_rc (op : BinOp) (x y : Operand) (xs ys : Array Value) (w : World) : (eqGuard op 37 x y (.agg xs) (.agg ys)).run Tryz.prog w = .ok () w := run_eqGuard_agg _ _ _ _ _ _ _ rc_guard

theorem equalIn_rc (r s : Rc) (w : World) : (Op.equalIn 10000 37 (RV r) (RV s)).run Tryz.prog w = .ok (eqR r s) w := by
  rw [show (10000 : Nat) = 9999 + 1 from rfl, run_equalIn_agg w 9999 _ _ _ rc_fields rc_stood]
  simp [go_sem, Op.eqFields]
  by_cases h1 : r.x = s.x <;> by_cases h2 : r.y = s.y <;> by_cases h3 : r.a = s.a <;> by_cases h4 : r.b = s.b <;> simp [eqR, h1, h2, h3, h4]

theorem eql_rc (x y a b x' y' a' b' : Int) (w : World) : (binOp .eql 37 (.agg #[.int .i64 x, .int .i64 y, .int .i64 a, .int .i64 b]) (.agg #[.int .i64 x', .int .i64 y', .int .i64 a', .int .i64 b'])).run Tryz.prog w = .ok (.bool (eqR ⟨x, y, a, b⟩ ⟨x', y', a', b'⟩)) w := by
  rw [run_eql_struct, equalIn_rc ⟨x, y, a, b⟩ ⟨x', y', a', b'⟩ w]; rfl
theorem neq_rc (x y a b x' y' a' b' : Int) (w : World) : (binOp .neq 37 (.agg #[.int .i64 x, .int .i64 y, .int .i64 a, .int .i64 b]) (.agg #[.int .i64 x', .int .i64 y', .int .i64 a', .int .i64 b'])).run Tryz.prog w = .ok (.bool (!eqR ⟨x, y, a, b⟩ ⟨x', y', a', b'⟩)) w := by
  rw [run_neq_struct, equalIn_rc ⟨x, y, a, b⟩ ⟨x', y', a', b'⟩ w]; rfl

end Go.Proofs.YtajoipmchgabfaaGreat

/- Plain facts on rectangles as four whole numbers: what And, Or, In, Has, Area and Shift have to do with each other. -/
namespace Go.Proofs.YtajoipmchgabfaaGreat

theorem Rc.eq_of {r s : Rc} (h1 : r.x = s.x) (h2 : r.y = s.y) (h3 : r.a = s.a) (h4 : r.b = s.b) : r = s := by
  cases r; cases s; simp_all
theorem eqR_self (r : Rc) : eqR r r = true := by simp [eqR]
theorem eqR_iff {r s : Rc} : eqR r s = true ↔ r = s := by
  constructor
  · intro h
    have h : r.x = s.x ∧ r.y = s.y ∧ r.a = s.a ∧ r.b = s.b := by simpa [eqR] using h
    exact Rc.eq_of h.1 h.2.1 h.2.2.1 h.2.2.2
  · intro h; subst h; simp [eqR]
theorem emptyR_true {r : Rc} : emptyR r = true ↔ ¬ ((-1048576 ≤ r.x ∧ 0 < r.a ∧ r.a ≤ 1048576 - r.x) ∧ (-1048576 ≤ r.y ∧ 0 < r.b ∧ r.b ≤ 1048576 - r.y)) := by
  rw [← emptyR_false]; cases emptyR r <;> simp
theorem zero_empty : emptyR zeroRc = true := by decide

/-- What two have in common: the zero one, or the rectangle between. -/
theorem and_spec (r s : Rc) :
    (andR r s = zeroRc ∧ (emptyR r = true ∨ emptyR s = true ∨ min (r.x + r.a) (s.x + s.a) ≤ max r.x s.x ∨ min (r.y + r.b) (s.y + s.b) ≤ max r.y s.y)) ∨
    (andR r s = midR r s ∧ emptyR r = false ∧ emptyR s = false ∧ max r.x s.x < min (r.x + r.a) (s.x + s.a) ∧ max r.y s.y < min (r.y + r.b) (s.y + s.b) ∧ emptyR (midR r s) = false) := by
  cases hr : emptyR r
  · cases hs : emptyR s
    · cases hm : emptyR (midR r s)
      · right
        have h := emptyR_false.1 hm
        simp only [midR] at h
        exact ⟨by simp [andR, hr, hs, hm], rfl, rfl, by omega, by omega, rfl⟩
      · left
        have h := emptyR_true.1 hm
        have h1 := emptyR_false.1 hr
        have h2 := emptyR_false.1 hs
        simp only [midR] at h
        refine ⟨by simp [andR, hm], Or.inr (Or.inr ?_)⟩
        omega
    · exact Or.inl ⟨by simp [andR, hs], Or.inr (Or.inl rfl)⟩
  · exact Or.inl ⟨by simp [andR, hr], Or.inl rfl⟩

theorem and_fit (r s : Rc) : Fit (andR r s) := by
  rcases and_spec r s with ⟨e, _⟩ | ⟨e, _, _, _, _, h⟩
  · rw [e]; exact ⟨by decide, by decide⟩
  · have := emptyR_false.1 h
    rw [e]; exact ⟨by omega, by omega⟩

theorem has_iff {r : Rc} {x y : Int} : hasR r x y = true ↔ emptyR r = false ∧ (r.x ≤ x ∧ x < r.x + r.a) ∧ (r.y ≤ y ∧ y < r.y + r.b) := by
  have h1 : hasR r x y = true ↔ goodR r = true ∧ (r.x ≤ x ∧ x < r.x + r.a) ∧ (r.y ≤ y ∧ y < r.y + r.b) := by simp [hasR, wayHas]
  rw [h1, goodR_iff, emptyR_false]
  omega

/-- A pixel is in what two have in common just if both have it. -/
theorem has_and (r s : Rc) (x y : Int) : hasR (andR r s) x y = (hasR r x y && hasR s x y) := by
  rw [Bool.eq_iff_iff, Bool.and_eq_true, has_iff, has_iff, has_iff]
  rcases and_spec r s with ⟨e, h⟩ | ⟨e, hr, hs, h1, h2, h⟩
  · rw [e, zero_empty]
    simp only [Bool.true_eq_false, false_and, false_iff]
    rintro ⟨⟨a1, a2, a3⟩, b1, b2, b3⟩
    rcases h with h | h | h
    · rw [a1] at h; cases h
    · rw [b1] at h; cases h
    · omega
  · rw [e, h, hr, hs]
    simp only [midR, true_and]
    omega

theorem and_comm (r s : Rc) : andR r s = andR s r := by
  rcases and_spec r s with ⟨e, h⟩ | ⟨e, hr, hs, h1, h2, h⟩ <;> rcases and_spec s r with ⟨e', h'⟩ | ⟨e', hr', hs', h1', h2', h''⟩
  · rw [e, e']
  · rcases h with h | h | h
    · rw [hs'] at h; cases h
    · rw [hr'] at h; cases h
    · omega
  · rcases h' with h' | h' | h'
    · rw [hs] at h'; cases h'
    · rw [hr] at h'; cases h'
    · omega
  · rw [e, e']; apply Rc.eq_of <;> simp only [midR] <;> omega

theorem and_zero_left (s : Rc) : andR zeroRc s = zeroRc := by simp [andR, zero_empty]
theorem and_zero_right (s : Rc) : andR s zeroRc = zeroRc := by simp [andR, zero_empty]

theorem and_self (r : Rc) (h : emptyR r = false) : andR r r = r := by
  have h0 := emptyR_false.1 h
  rcases and_spec r r with ⟨e, h'⟩ | ⟨e, _⟩
  · rw [h] at h'
    simp at h'
    omega
  · rw [e]; apply Rc.eq_of <;> simp only [midR] <;> omega

theorem add_sub_back (p q : Int) : p + (q - p) = q := by omega
theorem lt_mm {a b c d : Int} : max a b < min c d ↔ a < c ∧ a < d ∧ b < c ∧ b < d := by omega
theorem le_mm {a b c d : Int} : min c d ≤ max a b ↔ c ≤ a ∨ c ≤ b ∨ d ≤ a ∨ d ≤ b := by omega

/-- Three have a rectangle in common, in whatever order it is asked. -/
def Meet3 (r s t : Rc) : Prop :=
  (r.x < s.x + s.a ∧ r.x < t.x + t.a ∧ s.x < r.x + r.a ∧ s.x < t.x + t.a ∧ t.x < r.x + r.a ∧ t.x < s.x + s.a) ∧
  (r.y < s.y + s.b ∧ r.y < t.y + t.b ∧ s.y < r.y + r.b ∧ s.y < t.y + t.b ∧ t.y < r.y + r.b ∧ t.y < s.y + s.b)

theorem and_left3 (r s t : Rc) :
    (andR (andR r s) t = zeroRc ∧ ¬ (emptyR r = false ∧ emptyR s = false ∧ emptyR t = false ∧ Meet3 r s t)) ∨
    (andR (andR r s) t = midR (midR r s) t ∧ (emptyR r = false ∧ emptyR s = false ∧ emptyR t = false ∧ Meet3 r s t)) := by
  rcases and_spec r s with ⟨e2, h2⟩ | ⟨e2, b1, b2, b3, b4, b5⟩
  · left
    rw [e2, and_zero_left]
    refine ⟨rfl, ?_⟩
    rintro ⟨a1, a2, _, m1, m2⟩
    rw [a1, a2, le_mm, le_mm] at h2
    have := emptyR_false.1 a1
    have := emptyR_false.1 a2
    simp at h2
    omega
  · rw [e2]
    have k1 := emptyR_false.1 b1
    have k2 := emptyR_false.1 b2
    rw [lt_mm] at b3 b4
    rcases and_spec (midR r s) t with ⟨e3, h3⟩ | ⟨e3, c1, c2, c3, c4, c5⟩
    · left
      refine ⟨e3, ?_⟩
      rintro ⟨a1, a2, a3, m1, m2⟩
      have k3 := emptyR_false.1 a3
      rw [b5, a3] at h3
      simp only [midR, add_sub_back, Bool.false_eq_true, false_or] at h3
      rcases h3 with h3 | h3
      · clear m2 b4; omega
      · clear m1 b3; omega
    · right
      refine ⟨e3, b1, b2, c2, ?_, ?_⟩
      · simp only [midR, add_sub_back] at c3
        clear c4 b4; have := emptyR_false.1 c2; omega
      · simp only [midR, add_sub_back] at c4
        clear c3 b3; have := emptyR_false.1 c2; omega

theorem and_right3 (r s t : Rc) :
    (andR r (andR s t) = zeroRc ∧ ¬ (emptyR r = false ∧ emptyR s = false ∧ emptyR t = false ∧ Meet3 r s t)) ∨
    (andR r (andR s t) = midR r (midR s t) ∧ (emptyR r = false ∧ emptyR s = false ∧ emptyR t = false ∧ Meet3 r s t)) := by
  rcases and_spec s t with ⟨e2, h2⟩ | ⟨e2, b1, b2, b3, b4, b5⟩
  · left
    rw [e2, and_zero_right]
    refine ⟨rfl, ?_⟩
    rintro ⟨_, a1, a2, m1, m2⟩
    rw [a1, a2, le_mm, le_mm] at h2
    have := emptyR_false.1 a1
    have := emptyR_false.1 a2
    simp at h2
    omega
  · rw [e2]
    have k1 := emptyR_false.1 b1
    have k2 := emptyR_false.1 b2
    rw [lt_mm] at b3 b4
    rcases and_spec r (midR s t) with ⟨e3, h3⟩ | ⟨e3, c1, c2, c3, c4, c5⟩
    · left
      refine ⟨e3, ?_⟩
      rintro ⟨a1, a2, a3, m1, m2⟩
      have k3 := emptyR_false.1 a1
      rw [b5, a1] at h3
      simp only [midR, add_sub_back, Bool.false_eq_true, false_or] at h3
      rcases h3 with h3 | h3
      · clear m2 b4; omega
      · clear m1 b3; omega
    · right
      refine ⟨e3, c1, b1, b2, ?_, ?_⟩
      · simp only [midR, add_sub_back] at c3
        clear c4 b4; have := emptyR_false.1 c1; omega
      · simp only [midR, add_sub_back] at c4
        clear c3 b3; have := emptyR_false.1 c1; omega

theorem and_assoc' (r s t : Rc) : andR r (andR s t) = andR (andR r s) t := by
  rcases and_left3 r s t with ⟨e1, h1⟩ | ⟨e1, h1⟩ <;> rcases and_right3 r s t with ⟨e2, h2⟩ | ⟨e2, h2⟩
  · rw [e1, e2]
  · exact absurd h2 h1
  · exact absurd h1 h2
  · rw [e1, e2]
    simp only [midR, add_sub_back]
    rw [Int.max_assoc, Int.max_assoc, Int.min_assoc, Int.min_assoc]

/-- One has the other: none has pixels, or the numbers tell it. -/
theorem in_iff {r s : Rc} : inR r s = true ↔ emptyR r = true ∨ (emptyR r = false ∧ emptyR s = false ∧ s.x ≤ r.x ∧ r.x + r.a ≤ s.x + s.a ∧ s.y ≤ r.y ∧ r.y + r.b ≤ s.y + s.b) := by
  unfold inR
  rw [Bool.or_eq_true, eqR_iff]
  cases hr : emptyR r
  · have h0 := emptyR_false.1 hr
    simp only [Bool.false_eq_true, false_or, true_and]
    rcases and_spec r s with ⟨e, h⟩ | ⟨e, _, hs, h1, h2, h⟩
    · rw [e]
      constructor
      · intro hz; rw [← hz, zero_empty] at hr; cases hr
      · rintro ⟨hs, a1, a2, a3, a4⟩
        rw [hr, hs] at h
        simp at h
        have := emptyR_false.1 hs
        omega
    · rw [e, hs]
      constructor
      · intro hz
        have e1 : (midR r s).x = r.x := by rw [hz]
        have e2 : (midR r s).y = r.y := by rw [hz]
        have e3 : (midR r s).a = r.a := by rw [hz]
        have e4 : (midR r s).b = r.b := by rw [hz]
        simp only [midR] at e1 e2 e3 e4
        refine ⟨rfl, by omega, by omega, by omega, by omega⟩
      · rintro ⟨_, a1, a2, a3, a4⟩
        apply Rc.eq_of <;> simp only [midR] <;> omega
  · simp

theorem in_self (r : Rc) : inR r r = true := by
  rw [in_iff]
  cases hr : emptyR r
  · right; exact ⟨rfl, rfl, by omega, by omega, by omega, by omega⟩
  · left; rfl

theorem in_trans {r s t : Rc} (h1 : inR r s = true) (h2 : inR s t = true) : inR r t = true := by
  rw [in_iff] at *
  rcases h1 with h1 | ⟨a1, a2, a3⟩
  · exact Or.inl h1
  · rcases h2 with h2 | ⟨b1, b2, b3⟩
    · rw [a2] at h2; cases h2
    · exact Or.inr ⟨a1, b2, by omega, by omega, by omega, by omega⟩

theorem area_zero {r : Rc} (h : emptyR r = true) : areaR r = 0 := by simp [areaR, h]
theorem area_full {r : Rc} (h : emptyR r = false) : areaR r = r.a * r.b := by simp [areaR, h]
theorem area_nonneg (r : Rc) : 0 ≤ areaR r := by
  cases h : emptyR r
  · have := emptyR_false.1 h
    rw [area_full h]; exact Int.mul_nonneg (by omega) (by omega)
  · rw [area_zero h]; exact Int.le_refl 0
theorem area_pos {r : Rc} (h : emptyR r = false) : 0 < areaR r := by
  have := emptyR_false.1 h
  rw [area_full h]; exact Int.mul_pos (by omega) (by omega)

theorem area_mono {r s : Rc} (h : inR r s = true) : areaR r ≤ areaR s := by
  rw [in_iff] at h
  rcases h with h | ⟨a1, a2, a3⟩
  · rw [area_zero h]; exact area_nonneg s
  · have h1 := emptyR_false.1 a1
    have h2 := emptyR_false.1 a2
    rw [area_full a1, area_full a2]
    exact Int.mul_le_mul (by omega) (by omega) (by omega) (by omega)

end Go.Proofs.YtajoipmchgabfaaGreat
