/- Several texts in one, each with its own head. -/
import Derived.Test.YtpddkhhdleknnaaZ38
import Derived.Test.YtpddkhhdleknnaaZ18
import Derived.Test.YtpddkhhdleknnaaZ37
/- The document's edges: places that rise, each once; what is owned of a row. -/
namespace Go.Proofs.Ytpddkhhdleknnaa
open Go.RowKit

def intsV (l : List Int) : List Value := l.map (Value.int .i64)

theorem int_info : (Try.prog.info? 3).map (fun i => (i.zero, i.size, i.bytes)) = some (some (.int .i64 0), 1, 8) := by kernel_rfl

theorem owns_take1 {W : World} {base : Nat} {e : TypeId} {g n cap k : Nat} {xs : List Value} (h : W.ownsRow base e 1 (.slice (some ⟨g, 0, none⟩) n cap) n xs) (hk : k ≤ n) : W.ownsRow base e 1 (.slice (some ⟨g, 0, none⟩) k cap) k (xs.take k) := by
  rcases h.2 with ⟨h1, _⟩ | ⟨g', cap', cur, he, hb, hg, hn, hm, hs, ht⟩
  · cases h1
  · cases he
    refine ⟨?_, .inr ⟨g, cap, cur, rfl, hb, hg, by omega, hm, hs, ?_⟩⟩
    · have := h.1
      simp [List.length_take] at this ⊢
      omega
    · rw [Nat.mul_one] at ht ⊢
      rw [← ht, List.take_take, Nat.min_eq_left hk]

/-- Where a rectangle begins, and how far it goes, across or down. -/
def nearR (down : Bool) (r : Rc) : Int := if down = true then r.y else r.x
def sizeR (down : Bool) (r : Rc) : Int := if down = true then r.b else r.a
/-- The places behind one rectangle more. -/
def edgeR (down : Bool) (o : List Int) (r : Rc) : List Int := if emptyR r = true then o else insI (nearR down r + sizeR down r) (insI (nearR down r) o)
def edgesI (down : Bool) (xs : List Rc) (o : List Int) : List Int := xs.foldl (edgeR down) o

theorem edgesI_take (down : Bool) (xs : List Rc) (o : List Int) (k : Nat) (h : k < xs.length) : edgesI down (xs.take (k + 1)) o = edgeR down (edgesI down (xs.take k) o) xs[k] := by
  rw [List.take_succ_eq_append_getElem h, edgesI, List.foldl_append]; rfl

theorem edgeR_rises {down : Bool} {o : List Int} {r : Rc} (h : o.Pairwise (· < ·)) : (edgeR down o r).Pairwise (· < ·) := by
  unfold edgeR
  split
  · exact h
  · exact insI_rises (insI_rises h)

theorem edgesI_rises {down : Bool} : ∀ {xs : List Rc} {o : List Int}, o.Pairwise (· < ·) → (edgesI down xs o).Pairwise (· < ·)
  | [], _, h => h
  | r :: xs, o, h => by
    rw [show edgesI down (r :: xs) o = edgesI down xs (edgeR down o r) from rfl]
    exact edgesI_rises (edgeR_rises h)

theorem insI_len (x : Int) : ∀ l : List Int, (insI x l).length ≤ l.length + 1
  | [] => by simp [insI]
  | y :: l => by
    have := insI_len x l
    unfold insI
    split
    · simp; omega
    · split <;> simp

theorem edgeR_len (down : Bool) (o : List Int) (r : Rc) : (edgeR down o r).length ≤ o.length + 2 := by
  unfold edgeR
  split
  · omega
  · have h1 := insI_len (nearR down r + sizeR down r) (insI (nearR down r) o)
    have h2 := insI_len (nearR down r) o
    omega

theorem edgesI_len (down : Bool) : ∀ (xs : List Rc) (o : List Int), (edgesI down xs o).length ≤ o.length + 2 * xs.length
  | [], _ => by simp [edgesI]
  | r :: xs, o => by
    have h1 := edgesI_len down xs (edgeR down o r)
    have h2 := edgeR_len down o r
    rw [show edgesI down (r :: xs) o = edgesI down xs (edgeR down o r) from rfl, List.length_cons]
    omega

/-- Which places there are. -/
theorem edgesI_mem {down : Bool} {z : Int} : ∀ {xs : List Rc} {o : List Int}, z ∈ edgesI down xs o ↔ z ∈ o ∨ ∃ r ∈ xs, emptyR r = false ∧ (z = nearR down r ∨ z = nearR down r + sizeR down r)
  | [], o => by simp [edgesI]
  | r :: xs, o => by
    rw [show edgesI down (r :: xs) o = edgesI down xs (edgeR down o r) from rfl, edgesI_mem]
    have e : z ∈ edgeR down o r ↔ z ∈ o ∨ (emptyR r = false ∧ (z = nearR down r ∨ z = nearR down r + sizeR down r)) := by
      unfold edgeR
      cases he : emptyR r
      · simp only [Bool.false_eq_true, if_false, insI_mem]
        constructor
        · rintro (h | h | h)
          · exact .inr ⟨trivial, .inr h⟩
          · exact .inr ⟨trivial, .inl h⟩
          · exact .inl h
        · rintro (h | ⟨_, h | h⟩)
          · exact .inr (.inr h)
          · exact .inr (.inl h)
          · exact .inl h
      · simp
    rw [e]
    simp only [List.mem_cons, exists_eq_or_imp]
    constructor
    · rintro ((h | h) | h)
      · exact .inl h
      · exact .inr (.inl h)
      · exact .inr (.inr h)
    · rintro (h | h | h)
      · exact .inl (.inl h)
      · exact .inl (.inr h)
      · exact .inr h

end Go.Proofs.Ytpddkhhdleknnaa

/- Plain facts: the least rectangle of all hangs on the pixels alone. -/
namespace Go.Proofs.Ytpddkhhdleknnaa
open Go.RowKit

/-- q is the least rectangle of these pixels. -/
def Least (q : Rc) (P : Int → Int → Prop) : Prop :=
  (q = zeroRc ∧ ∀ x y, ¬ P x y) ∨
  (emptyR q = false ∧ (∀ x y, P x y → hasR q x y = true) ∧ (∃ y, P q.x y) ∧ (∃ y, P (q.x + q.a - 1) y) ∧ (∃ x, P x q.y) ∧ ∃ x, P x (q.y + q.b - 1))

theorem least_unique {q q' : Rc} {P : Int → Int → Prop} (h : Least q P) (h' : Least q' P) : q = q' := by
  rcases h with ⟨rfl, h0⟩ | ⟨he, hin, ⟨y1, w1⟩, ⟨y2, w2⟩, ⟨x3, w3⟩, ⟨x4, w4⟩⟩
  · rcases h' with ⟨rfl, _⟩ | ⟨_, _, ⟨y1, w1⟩, _⟩
    · rfl
    · exact absurd w1 (h0 _ _)
  · rcases h' with ⟨rfl, h0⟩ | ⟨he', hin', ⟨y1', w1'⟩, ⟨y2', w2'⟩, ⟨x3', w3'⟩, ⟨x4', w4'⟩⟩
    · exact absurd w1 (h0 _ _)
    · have a1 := has_iff.1 (hin' _ _ w1)
      have a2 := has_iff.1 (hin' _ _ w2)
      have a3 := has_iff.1 (hin' _ _ w3)
      have a4 := has_iff.1 (hin' _ _ w4)
      have b1 := has_iff.1 (hin _ _ w1')
      have b2 := has_iff.1 (hin _ _ w2')
      have b3 := has_iff.1 (hin _ _ w3')
      have b4 := has_iff.1 (hin _ _ w4')
      obtain ⟨qx, qy, qa, qb⟩ := q
      obtain ⟨rx, ry, ra, rb⟩ := q'
      simp only at a1 a2 a3 a4 b1 b2 b3 b4
      simp only [Rc.mk.injEq]
      omega

theorem least_step {q r : Rc} {P : Int → Int → Prop} (h : Least q P) : Least (orR q r) (fun x y => P x y ∨ hasR r x y = true) := by
  have hz : emptyR zeroRc = true := by decide
  cases hr : emptyR r
  · have hb := emptyR_false.1 hr
    have c1 : ∀ x y, (r.x ≤ x ∧ x < r.x + r.a) → (r.y ≤ y ∧ y < r.y + r.b) → hasR r x y = true := fun x y h1 h2 => has_iff.2 ⟨hr, h1, h2⟩
    rcases h with ⟨rfl, h0⟩ | ⟨he, hin, ⟨y1, w1⟩, ⟨y2, w2⟩, ⟨x3, w3⟩, ⟨x4, w4⟩⟩
    · rcases or_spec zeroRc r with ⟨_, a, _⟩ | ⟨_, _, e⟩ | ⟨a, _⟩ | ⟨a, _⟩
      · rw [hr] at a; cases a
      · rw [e]
        refine .inr ⟨hr, fun x y h => ?_, ⟨r.y, .inr (c1 _ _ (by omega) (by omega))⟩, ⟨r.y, .inr (c1 _ _ (by omega) (by omega))⟩, ⟨r.x, .inr (c1 _ _ (by omega) (by omega))⟩, ⟨r.x, .inr (c1 _ _ (by omega) (by omega))⟩⟩
        rcases h with h | h
        · exact absurd h (h0 _ _)
        · exact h
      · rw [hz] at a; cases a
      · rw [hz] at a; cases a
    · rcases or_spec q r with ⟨a, _⟩ | ⟨a, _⟩ | ⟨_, a, _⟩ | ⟨_, _, e, d⟩
      · rw [he] at a; cases a
      · rw [he] at a; cases a
      · rw [hr] at a; cases a
      · have hq := emptyR_false.1 he
        have g1 : hasR (orR q r) = hasR (allR q r) := by rw [e]
        refine .inr ⟨by rw [e]; exact d, fun x y h => ?_, ?_, ?_, ?_, ?_⟩
        · rcases h with h | h
          · exact has_or_left (hin _ _ h)
          · exact has_or_right h
        · rw [e]
          rcases Int.le_total q.x r.x with hh | hh
          · exact ⟨y1, .inl (by rw [show (allR q r).x = q.x by simp only [allR]; omega]; exact w1)⟩
          · exact ⟨r.y, .inr (c1 _ _ (by rw [show (allR q r).x = r.x by simp only [allR]; omega]; omega) (by omega))⟩
        · rw [e]
          rcases Int.le_total (r.x + r.a) (q.x + q.a) with hh | hh
          · exact ⟨y2, .inl (by rw [show (allR q r).x + (allR q r).a - 1 = q.x + q.a - 1 by simp only [allR]; omega]; exact w2)⟩
          · exact ⟨r.y, .inr (c1 _ _ (by rw [show (allR q r).x + (allR q r).a - 1 = r.x + r.a - 1 by simp only [allR]; omega]; omega) (by omega))⟩
        · rw [e]
          rcases Int.le_total q.y r.y with hh | hh
          · exact ⟨x3, .inl (by rw [show (allR q r).y = q.y by simp only [allR]; omega]; exact w3)⟩
          · exact ⟨r.x, .inr (c1 _ _ (by omega) (by rw [show (allR q r).y = r.y by simp only [allR]; omega]; omega))⟩
        · rw [e]
          rcases Int.le_total (r.y + r.b) (q.y + q.b) with hh | hh
          · exact ⟨x4, .inl (by rw [show (allR q r).y + (allR q r).b - 1 = q.y + q.b - 1 by simp only [allR]; omega]; exact w4)⟩
          · exact ⟨r.x, .inr (c1 _ _ (by omega) (by rw [show (allR q r).y + (allR q r).b - 1 = r.y + r.b - 1 by simp only [allR]; omega]; omega))⟩
  · have hno : ∀ x y, ¬ hasR r x y = true := fun x y h => by
      have := (has_iff.1 h).1
      rw [hr] at this; cases this
    rcases h with ⟨rfl, h0⟩ | ⟨he, hin, w1, w2, w3, w4⟩
    · rcases or_spec zeroRc r with ⟨_, _, e⟩ | ⟨_, a, _⟩ | ⟨a, _⟩ | ⟨a, _⟩
      · rw [e]
        exact .inl ⟨rfl, fun x y h => h.elim (h0 _ _) (hno _ _)⟩
      · rw [hr] at a; cases a
      · rw [hz] at a; cases a
      · rw [hz] at a; cases a
    · rcases or_spec q r with ⟨a, _⟩ | ⟨a, _⟩ | ⟨_, _, e⟩ | ⟨_, a, _⟩
      · rw [he] at a; cases a
      · rw [he] at a; cases a
      · rw [e]
        exact .inr ⟨he, fun x y h => h.elim (hin _ _) (fun h => absurd h (hno _ _)), w1.imp fun _ h => .inl h, w2.imp fun _ h => .inl h, w3.imp fun _ h => .inl h, w4.imp fun _ h => .inl h⟩
      · rw [hr] at a; cases a

theorem least_bounds (l : List Rc) : Least (boundsL l) (fun x y => pix l x y = true) := by
  have key : ∀ (l : List Rc) (q : Rc) (P : Int → Int → Prop), Least q P → Least (l.foldl orR q) (fun x y => P x y ∨ pix l x y = true) := by
    intro l
    induction l with
    | nil =>
      intro q P h
      have e : (fun x y => P x y ∨ pix [] x y = true) = P := by
        funext x y
        simp [pix]
      rw [e]; exact h
    | cons r l ih =>
      intro q P h
      have h2 := ih _ _ (least_step (r := r) h)
      have e : (fun x y => (P x y ∨ hasR r x y = true) ∨ pix l x y = true) = (fun x y => P x y ∨ pix (r :: l) x y = true) := by
        funext x y
        simp [pix, or_assoc]
      rw [e] at h2
      exact h2
  have h := key l zeroRc (fun _ _ => False) (.inl ⟨rfl, fun _ _ h => h⟩)
  have e : (fun x y => False ∨ pix l x y = true) = (fun x y => pix l x y = true) := by
    funext x y
    simp
  rw [e] at h
  exact h

/-- The bounds of the form are the list's. -/
theorem bounds_form (l : List Rc) : boundsL (formL (fun p _ => p) l []) = boundsL l := by
  have h := least_bounds (formL (fun p _ => p) l [])
  have e : (fun x y => pix (formL (fun p _ => p) l []) x y = true) = (fun x y => pix l x y = true) := by
    funext x y
    rw [pix_ofform]
  rw [e] at h
  exact least_unique h (least_bounds l)

end Go.Proofs.Ytpddkhhdleknnaa
