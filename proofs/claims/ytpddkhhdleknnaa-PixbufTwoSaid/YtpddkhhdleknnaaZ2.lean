/- Several texts in one, each with its own head. -/
import Derived.Test.YtpddkhhdleknnaaZ1
import Derived.Deep.DeepCutAuto
import Derived.Sort.CutIn
/- Slices as rows of cells: what a slice reads as; a row that is owned and stored into. Nothing here speaks of one program. -/
namespace Go.Proofs.Ytpddkhhdleknnaa
open Go.RowKit

theorem heap_kept_pushed (l : List Obj) (w : World) (k : Nat) (h : k < w.heap.size) : (l.foldl World.alloc w).heap[k]? = w.heap[k]? := by
  induction l generalizing w with
  | nil => rfl
  | cons x l ih => exact (ih (w.alloc x) (by simp; omega)).trans (Below.heap_alloc w x k h)
theorem heap_pushed (l : List Obj) (w : World) (i : Nat) (o : Obj) : (l.foldl World.alloc w).heap[w.heap.size + i]? = some o ↔ l[i]? = some o := by
  induction l generalizing w i with
  | nil => simp
  | cons x l ih =>
    cases i with
    | zero =>
      rw [List.foldl_cons, Nat.add_zero, heap_kept_pushed l (w.alloc x) w.heap.size (by simp), World.alloc_heap_new]
      simp
    | succ i =>
      have := ih (w.alloc x) i
      rw [World.size_alloc, Nat.add_assoc, Nat.add_comm 1 i] at this
      simpa using this
theorem two_set0 {W : World} {B : Nat} {t : TypeId} {a b : Value} (c : Value) (h : W.heap[B]? = some (.cells #[a, b] t)) : (W.setCell ⟨B, 0, none⟩ c).heap[B]? = some (.cells #[c, b] t) := by
  obtain ⟨hlt, hk⟩ := Array.getElem?_eq_some_iff.1 h
  show (W.heap.modify B _)[B]? = _
  rw [Array.getElem?_eq_getElem (by rw [Array.size_modify]; exact hlt), Array.getElem_modify_self, hk]
  rfl
theorem two_set1 {W : World} {B : Nat} {t : TypeId} {a b : Value} (c : Value) (h : W.heap[B]? = some (.cells #[a, b] t)) : (W.setCell ⟨B, 1, none⟩ c).heap[B]? = some (.cells #[a, c] t) := by
  obtain ⟨hlt, hk⟩ := Array.getElem?_eq_some_iff.1 h
  show (W.heap.modify B _)[B]? = _
  rw [Array.getElem?_eq_getElem (by rw [Array.size_modify]; exact hlt), Array.getElem_modify_self, hk]
  rfl
theorem Turns.set {T : Nat → Prop} {a W : World} (h : Turns T a W) {p : Addr} (hp : T p.block) (u : Value) : Turns T a (W.setCell p u) :=
  h.trans ⟨rfl, rfl, rfl, (KeepsWalks.setCell W p u).size, fun k _ hk => Below.heap_setCell _ _ _ k (fun e => hk (e ▸ hp))⟩
theorem Turns.set1 (B : Nat) (W : World) (u : Value) : Turns (fun b => b = B) W (W.setCell ⟨B, 0, none⟩ u) := Turns.set (T := fun b => b = B) (p := ⟨B, 0, none⟩) (Turns.refl _ W) rfl u
theorem Turns.drew {T : Nat → Prop} {a W : World} (h : Turns T a W) : Turns T a W.drew := ⟨h.os, h.tape, h.output, h.size, h.block⟩
theorem Turns.drewN {T : Nat → Prop} {a W : World} (h : Turns T a W) (n : Nat) : Turns T a (W.drewN n) := ⟨h.os, h.tape, h.output, h.size, h.block⟩
theorem size_one {vs : Array Value} (h : vs.size = 1) : ∃ a, vs = #[a] := by
  obtain ⟨l⟩ := vs
  match l, h with
  | [a], _ => exact ⟨a, rfl⟩
theorem size_two {vs : Array Value} (h : vs.size = 2) : ∃ a b, vs = #[a, b] := by
  obtain ⟨l⟩ := vs
  match l, h with
  | [a, b], _ => exact ⟨a, b, rfl⟩

/-- The place p holds, in W, the row xs: elements of k cells each. -/
def RowAt {α : Type} (enc : α → List Value) (k : Nat) (W : World) (p : Option Addr) (xs : List α) : Prop :=
  (p = none ∧ xs = []) ∨ ∃ b off, p = some ⟨b, off, none⟩ ∧ b < W.heap.size ∧ ∀ i x, xs[i]? = some x → ∀ j u, (enc x)[j]? = some u → W.cell? ⟨b, off + i * k + j, none⟩ = some u

/-- The slice v reads, in W, as xs. -/
def Row {α : Type} (enc : α → List Value) (k : Nat) (W : World) (v : Value) (xs : List α) : Prop :=
  ∃ p cap, v = .slice p xs.length cap ∧ xs.length ≤ cap ∧ cap ≤ maxLen ∧ RowAt enc k W p xs

theorem RowAt.turns {α : Type} {enc : α → List Value} {k : Nat} {W W' : World} {p : Option Addr} {xs : List α} {T : Nat → Prop} (h : RowAt enc k W p xs) (ht : Turns T W W') (hn : ∀ a, p = some a → ¬ T a.block) : RowAt enc k W' p xs := by
  rcases h with h | ⟨b, off, rfl, h3, h4⟩
  · exact .inl h
  · exact .inr ⟨b, off, rfl, Nat.lt_of_lt_of_le h3 ht.size, fun i x hi j u hj => (World.cell?_of_block (ht.block b h3 (hn _ rfl))).trans (h4 i x hi j u hj)⟩
theorem Row.turns {α : Type} {enc : α → List Value} {k : Nat} {W W' : World} {v : Value} {xs : List α} {T : Nat → Prop} (h : Row enc k W v xs) (ht : Turns T W W') (hn : ∀ b, v.ownBlock = some b → ¬ T b) : Row enc k W' v xs := by
  obtain ⟨p, cap, rfl, h1, h2, h3⟩ := h
  exact ⟨p, cap, rfl, h1, h2, h3.turns ht (fun a e => hn a.block (by rw [e]; rfl))⟩
theorem RowAt.below {α : Type} {enc : α → List Value} {k : Nat} {W W' : World} {p : Option Addr} {xs : List α} (h : RowAt enc k W p xs) (hb : Below W.heap.size W W') : RowAt enc k W' p xs :=
  h.turns (T := fun _ => False) (Turns.of_below' hb) (fun _ _ h => h)
theorem Row.below {α : Type} {enc : α → List Value} {k : Nat} {W W' : World} {v : Value} {xs : List α} (h : Row enc k W v xs) (hb : Below W.heap.size W W') : Row enc k W' v xs :=
  h.turns (T := fun _ => False) (Turns.of_below' hb) (fun _ _ h => h)
theorem Row.len {α : Type} {enc : α → List Value} {k : Nat} {W : World} {v : Value} {xs : List α} (h : Row enc k W v xs) : xs.length ≤ 9223372036854775807 := by
  obtain ⟨p, cap, rfl, h1, h2, h3⟩ := h; simp only [maxLen] at h2; omega

theorem lt_of_same {w W : World} {b : Nat} (h : b < w.heap.size) (hs : W.heap[b]? = w.heap[b]?) : b < W.heap.size := by
  rw [Array.getElem?_eq_getElem h] at hs
  exact (Array.getElem?_eq_some_iff.1 hs).1
theorem RowAt.same {α : Type} {enc : α → List Value} {k : Nat} {w W : World} {p : Option Addr} {xs : List α} (h : RowAt enc k w p xs) (hs : ∀ a, p = some a → W.heap[a.block]? = w.heap[a.block]?) : RowAt enc k W p xs := by
  rcases h with h | ⟨b, off, rfl, h3, h4⟩
  · exact .inl h
  · exact .inr ⟨b, off, rfl, lt_of_same h3 (hs _ rfl), fun i x hi j u hj => (World.cell?_of_block (a := ⟨b, off + i * k + j, none⟩) (hs ⟨b, off, none⟩ rfl)).trans (h4 i x hi j u hj)⟩
theorem Row.same {α : Type} {enc : α → List Value} {k : Nat} {w W : World} {v : Value} {xs : List α} (h : Row enc k w v xs) (hs : ∀ b, v.ownBlock = some b → W.heap[b]? = w.heap[b]?) : Row enc k W v xs := by
  obtain ⟨p, cap, rfl, h1, h2, h3⟩ := h
  exact ⟨p, cap, rfl, h1, h2, h3.same (fun a e => hs a.block (by rw [e]; rfl))⟩
theorem Boxed.same {w W : World} {B : Nat} {t : TypeId} {v : Value} (h : Boxed w B t v) (hs : W.heap[B]? = w.heap[B]?) : Boxed W B t v := hs.trans h

theorem flat_at' {α : Type} {enc : α → List Value} {k : Nat} (hk : ∀ x, (enc x).length = k) (l : List α) (i j : Nat) (hj : j < k) : (l.flatMap enc)[i * k + j]? = l[i]?.bind (fun x => (enc x)[j]?) := by
  induction l generalizing i with
  | nil => simp
  | cons x l ih =>
    rw [List.flatMap_cons]
    cases i with
    | zero =>
      rw [Nat.zero_mul, Nat.zero_add, List.getElem?_append_left (by rw [hk]; exact hj)]
      simp
    | succ i =>
      rw [List.getElem?_append_right (by rw [hk, Nat.add_mul]; omega), hk, show (i + 1) * k + j - k = i * k + j by rw [Nat.add_mul]; omega, ih]
      simp
theorem owns_row' {α : Type} {enc : α → List Value} {k : Nat} (hk : ∀ x, (enc x).length = k) {W : World} {base : Nat} {e : TypeId} {v : Value} {xs : List α} (h : W.ownsRow base e k v xs.length (xs.flatMap enc)) : Row enc k W v xs := by
  rcases h.2 with ⟨rfl, h0⟩ | ⟨g, cap, cur, rfl, hb, hg, hn, hm, hs, ht⟩
  · have hx : xs = [] := List.eq_nil_of_length_eq_zero h0
    subst hx
    exact ⟨none, 0, rfl, by simp, by simp [maxLen], .inl ⟨rfl, rfl⟩⟩
  · refine ⟨some ⟨g, 0, none⟩, cap, rfl, hn, hm, .inr ⟨g, 0, rfl, (Array.getElem?_eq_some_iff.1 hg).1, fun i x hi j u hj => ?_⟩⟩
    have hjk : j < k := by have := (List.getElem?_eq_some_iff.1 hj).1; rw [hk] at this; exact this
    have h1 := flat_at' hk xs i j hjk
    rw [hi] at h1
    simp only [Option.bind_some] at h1
    rw [hj, ← ht, List.getElem?_take] at h1
    split at h1
    · simp only [Nat.zero_add]
      rw [cell_of_row W g (i * k + j) cur e (0, 0) hg]
      simpa using h1
    · cases h1

theorem owns_slice {W : World} {base : Nat} {e : TypeId} {size : Nat} {v : Value} {n : Nat} {xs : List Value} (h : W.ownsRow base e size v n xs) : ∃ p c, v = .slice p n c := by
  rcases h.2 with ⟨rfl, rfl⟩ | ⟨g, cap, cur, rfl, _⟩
  · exact ⟨_, _, rfl⟩
  · exact ⟨_, _, rfl⟩

theorem owns_nil_cap {W : World} {base : Nat} {e : TypeId} {size : Nat} {v : Value} {n : Nat} {xs : List Value} (h : W.ownsRow base e size v n xs) : ∀ c, v = .slice none 0 c → c = 0 := by
  rintro c rfl
  rcases h.2 with ⟨h0, _⟩ | ⟨g, cap, cur, h1, _⟩
  · cases h0; rfl
  · cases h1

/-- A slice that reads so; nil has no room. -/
structure RwG {α : Type} (enc : α → List Value) (k : Nat) (w : World) (v : Value) (xs : List α) : Prop where
  row : Row enc k w v xs
  nil : ∀ c, v = .slice none 0 c → c = 0

theorem RwG.below {α : Type} {enc : α → List Value} {k : Nat} {w w1 : World} {v : Value} {xs : List α} (h : RwG enc k w v xs) (hb : Below w.heap.size w w1) : RwG enc k w1 v xs := ⟨h.row.below hb, h.nil⟩
theorem RwG.turns {α : Type} {enc : α → List Value} {k : Nat} {w w1 : World} {v : Value} {xs : List α} {T : Nat → Prop} (h : RwG enc k w v xs) (ht : Turns T w w1) (hn : ∀ b, v.ownBlock = some b → ¬ T b) : RwG enc k w1 v xs := ⟨h.row.turns ht hn, h.nil⟩
theorem RwG.owned {α : Type} {enc : α → List Value} {k : Nat} (hk : ∀ x, (enc x).length = k) {w : World} {base : Nat} {e : TypeId} {v : Value} {xs : List α} (h : w.ownsRow base e k v xs.length (xs.flatMap enc)) : RwG enc k w v xs := ⟨owns_row' hk h, owns_nil_cap h⟩
theorem RwG.lt {α : Type} {enc : α → List Value} {k : Nat} {w : World} {v : Value} {xs : List α} (h : RwG enc k w v xs) : ∀ b, v.ownBlock = some b → b < w.heap.size := by
  obtain ⟨⟨p, cap, rfl, -, -, h3⟩, -⟩ := h
  rcases h3 with ⟨rfl, rfl⟩ | ⟨b, off, rfl, h3, h4⟩
  · intro b h; cases h
  · intro b' h; cases h; exact h3

theorem RwG.src {α : Type} {enc : α → List Value} {k : Nat} (hk : ∀ x, (enc x).length = k) (h0 : 0 < k) {w : World} {v : Value} {xs : List α} (h : RwG enc k w v xs) : ∃ p c, v = .slice p xs.length c ∧ xs.length ≤ c ∧ c ≤ maxLen ∧ ((p = none ∧ xs.length = 0 ∧ c = 0) ∨ ∃ ad, p = some ad ∧ ∀ j u, (xs.flatMap enc)[j]? = some u → w.cell? (ad.add j) = some u) := by
  obtain ⟨⟨p, c, rfl, h1, h2, h3⟩, hn⟩ := h
  refine ⟨p, c, rfl, h1, h2, ?_⟩
  rcases h3 with ⟨rfl, rfl⟩ | ⟨b, off, rfl, h4, h5⟩
  · exact .inl ⟨rfl, rfl, hn _ rfl⟩
  · refine .inr ⟨_, rfl, fun j u hu => ?_⟩
    have hm := Nat.mod_lt j h0
    have hj : j / k * k + j % k = j := by rw [Nat.mul_comm]; exact Nat.div_add_mod j k
    have h1 := flat_at' hk xs (j / k) (j % k) hm
    rw [hj, hu] at h1
    cases hx : xs[j / k]? with
    | none => rw [hx] at h1; cases h1
    | some x =>
      rw [hx] at h1
      have h6 := h5 (j / k) x hx (j % k) u h1.symm
      rw [Nat.add_assoc, hj] at h6
      rw [Addr.add_lit]
      exact h6

/-- One cell of a row that is owned, stored anew. -/
theorem owns_setCell {W : World} {base : Nat} {e : TypeId} {size g n cap : Nat} {xs : List Value} (h : W.ownsRow base e size (.slice (some ⟨g, 0, none⟩) n cap) n xs) (j : Nat) (u : Value) :
    (W.setCell ⟨g, j, none⟩ u).ownsRow base e size (.slice (some ⟨g, 0, none⟩) n cap) n (xs.set j u) := by
  rcases h.2 with ⟨h0, _⟩ | ⟨g', cap', cur, h0, hb, hg, hn, hm, hs, ht⟩
  · cases h0
  · cases h0
    have hh : (W.setCell ⟨g, j, none⟩ u).heap[g]? = some (.cells (cur.setIfInBounds j u) e (0, 0)) := by
      obtain ⟨hlt, hk⟩ := Array.getElem?_eq_some_iff.1 hg
      show (W.heap.modify g _)[g]? = _
      rw [Array.getElem?_eq_getElem (by rw [Array.size_modify]; exact hlt), Array.getElem_modify_self, hk]
      simp
    exact ⟨by simpa using h.1, .inr ⟨g, cap, _, rfl, hb, hh, hn, hm, by simpa using hs, by rw [Array.toList_setIfInBounds, List.take_set, ht]⟩⟩

end Go.Proofs.Ytpddkhhdleknnaa

/- The walks of package rect's small functions (pick, reach, ends): what each call answers. -/
namespace Go.Proofs.Ytpddkhhdleknnaa
open Go.RowKit

def pickI (k x y : Int) : Int := if k = 0 then x else y

set_option maxHeartbeats 400000 in
theorem pick_any (k x y : Int) (w : World) :
    Calls Try.prog 102 #[.int .i64 k, .int .i64 x, .int .i64 y] w fun e w' => e = .returned (.int .i64 (pickI k x y)) ∧ w' = w := by
  by_cases hk : k = 0
  · subst hk
    go_enter Try.func102, Try.ntmps102
    go_wp2
    go_ret
    exact ⟨by simp [pickI], rfl⟩
  · have hk' : ((k : Int) == 0) = false := by simpa using hk
    go_enter Try.func102, Try.ntmps102
    go_wp2
    go_ret
    exact ⟨by simp [pickI, hk], rfl⟩

set_option maxHeartbeats 400000 in
theorem reach_any (k x y a b : Int) (w : World) :
    Makes Try.prog 105 #[.agg #[.int .i64 x, .int .i64 y, .int .i64 a, .int .i64 b], .int .i64 k] w (.tuple #[.int .i64 (pickI k x y), .int .i64 (pickI k a b)]) := by
  unfold Makes
  go_enter Try.func105, Try.ntmps105
  go_wp2
  go_quiet ((go_at_call 102; exact Calls.quiet_of_same (pick_any _ _ _ _)))
  go_wp2
  go_ret2
  exact ⟨rfl, Below.drewN' ((Below.refl _ _).alloc (Nat.le_refl _) _) _⟩

set_option maxHeartbeats 400000 in
theorem ends_any (k x y a b : Int) (w : World) (h1 : -9223372036854775808 ≤ pickI k x y + pickI k a b) (h2 : pickI k x y + pickI k a b ≤ 9223372036854775807) :
    Makes Try.prog 101 #[.agg #[.int .i64 x, .int .i64 y, .int .i64 a, .int .i64 b], .int .i64 k] w (.tuple #[.int .i64 (pickI k x y), .int .i64 (pickI k x y + pickI k a b)]) := by
  unfold Makes
  go_enter Try.func101, Try.ntmps101
  go_wp2_with (go_at_call 105; refine Calls.mono (reach_any _ _ _ _ _ _) ?_; rintro e w' ⟨rfl, hb⟩)
  go_ret2
  exact ⟨rfl, Below.thn (Below.al1 _ _) hb⟩

/-- One way of a good rectangle. -/
def wayGood (f s : Int) : Bool := decide (-1048576 ≤ f ∧ 0 ≤ s ∧ s ≤ 1048576 - f)

set_option maxHeartbeats 400000 in
theorem good1_any (k x y a b : Int) (B : Nat) (w : World) (hx : pickI k x y ≤ 9223372036854775807)
    (hc0 : w.cell? ⟨B, 0, none⟩ = some (.int .i64 x)) (hc1 : w.cell? ⟨B, 1, none⟩ = some (.int .i64 y)) (hc2 : w.cell? ⟨B, 2, none⟩ = some (.int .i64 a)) (hc3 : w.cell? ⟨B, 3, none⟩ = some (.int .i64 b)) :
    Makes Try.prog 119 #[.int .i64 k, .pointer (some ⟨B, 0, none⟩)] w (.bool (wayGood (pickI k x y) (pickI k a b))) := by
  unfold Makes
  go_enter Try.func119, Try.ntmps119
  go_wp2_with fail
  refine Calls.mono (reach_any _ _ _ _ _ _) ?_
  rintro e w' ⟨rfl, hb⟩
  go_wp2
  all_goals (go_ret; exact ⟨ret_bool (by rw [Bool.eq_iff_iff]; simp [wayGood]; omega), hb⟩)

set_option maxHeartbeats 400000 in
theorem both_any1 (F : FuncId) (q1 : Value) (b0 b1 : Bool) (w : World) (hF : Enters Try.prog F) (h0 : ∀ w1, Below w.heap.size w w1 → Makes Try.prog F #[.int .i64 0, q1] w1 (.bool b0)) (h1 : b0 = true → ∀ w1, Below w.heap.size w w1 → Makes Try.prog F #[.int .i64 1, q1] w1 (.bool b1)) :
    Makes Try.prog 99 #[.func (.func F) #[] #[q1]] w (.bool (b0 && b1)) := by
  unfold Makes
  have H0 := Lib.hid h0
  have H1 := Lib.hid h1
  clear h0 h1
  unfold Enters at hF
  go_enter Try.func99, Try.ntmps99
  go_wp2_with fail
  refine Calls.mono (H0.out _ (Below.refl _ _)) ?_
  rintro e w1 ⟨rfl, hb1⟩
  cases b0
  · go_wp2
    go_ret
    exact ⟨rfl, hb1⟩
  · go_wp2_with fail
    refine Calls.mono (H1.out (by first | rfl | trivial) _ hb1) ?_
    rintro e w2 ⟨rfl, hb2⟩
    go_wp2
    go_ret
    exact ⟨rfl, hb1.trans (hb2.mono hb1.size)⟩

set_option maxHeartbeats 400000 in
theorem both_any3 (F : FuncId) (q1 q2 q3 : Value) (b0 b1 : Bool) (w : World) (hF : Enters Try.prog F) (h0 : ∀ w1, Below w.heap.size w w1 → Makes Try.prog F #[.int .i64 0, q1, q2, q3] w1 (.bool b0)) (h1 : b0 = true → ∀ w1, Below w.heap.size w w1 → Makes Try.prog F #[.int .i64 1, q1, q2, q3] w1 (.bool b1)) :
    Makes Try.prog 99 #[.func (.func F) #[] #[q1, q2, q3]] w (.bool (b0 && b1)) := by
  unfold Makes
  have H0 := Lib.hid h0
  have H1 := Lib.hid h1
  clear h0 h1
  unfold Enters at hF
  go_enter Try.func99, Try.ntmps99
  go_wp2_with fail
  refine Calls.mono (H0.out _ (Below.refl _ _)) ?_
  rintro e w1 ⟨rfl, hb1⟩
  cases b0
  · go_wp2
    go_ret
    exact ⟨rfl, hb1⟩
  · go_wp2_with fail
    refine Calls.mono (H1.out (by first | rfl | trivial) _ hb1) ?_
    rintro e w2 ⟨rfl, hb2⟩
    go_wp2
    go_ret
    exact ⟨rfl, hb1.trans (hb2.mono hb1.size)⟩

/-- A rectangle's four numbers. -/
structure Rc where
  x : Int
  y : Int
  a : Int
  b : Int

abbrev RV (r : Rc) : Value := .agg #[.int .i64 r.x, .int .i64 r.y, .int .i64 r.a, .int .i64 r.b]

def Fit (r : Rc) : Prop := r.x ≤ 9223372036854775807 ∧ r.y ≤ 9223372036854775807

def goodR (r : Rc) : Bool := wayGood r.x r.a && wayGood r.y r.b
def wayFull (s : Int) : Bool := decide (0 < s)
def fullR (r : Rc) : Bool := wayFull r.a && wayFull r.b
def emptyR (r : Rc) : Bool := !goodR r || !fullR r

/-- The four cells of a rectangle that lies at the head of block B. -/
structure Lies (w : World) (B : Nat) (r : Rc) : Prop where
  c0 : w.cell? ⟨B, 0, none⟩ = some (.int .i64 r.x)
  c1 : w.cell? ⟨B, 1, none⟩ = some (.int .i64 r.y)
  c2 : w.cell? ⟨B, 2, none⟩ = some (.int .i64 r.a)
  c3 : w.cell? ⟨B, 3, none⟩ = some (.int .i64 r.b)

theorem Lies.later {w w1 : World} {B : Nat} {r : Rc} (h : Lies w B r) (hb : Below w.heap.size w w1) : Lies w1 B r :=
  ⟨cell_later hb h.c0, cell_later hb h.c1, cell_later hb h.c2, cell_later hb h.c3⟩
theorem Lies.new {w : World} {t : TypeId} {n : Nat} {r : Rc} (hn : n = w.heap.size) : Lies (w.alloc (.cells #[.int .i64 r.x, .int .i64 r.y, .int .i64 r.a, .int .i64 r.b] t)) n r :=
  ⟨cell_at hn rfl, cell_at hn rfl, cell_at hn rfl, cell_at hn rfl⟩

set_option maxHeartbeats 400000 in
theorem good_any (r : Rc) (w : World) (hf : Fit r) : Makes Try.prog 98 #[RV r] w (.bool (goodR r)) := by
  unfold Makes
  have hmf : ∀ (fn : Fn) (first cap : Array Value) (w : World), (Instr.makeFunc fn first cap).run Try.prog w = .ok (.func fn first cap) w := fun _ _ _ _ => rfl
  obtain ⟨hx, hy⟩ := hf
  go_enter Try.func98, Try.ntmps98
  go_wp2_with fail
  refine Calls.mono (both_any1 _ _ (wayGood r.x r.a) (wayGood r.y r.b) _ (enters_of Try.func119 (by kernel_rfl) rfl) ?_ ?_) ?_
  · intro w1 hb
    exact good1_any 0 r.x r.y r.a r.b _ w1 hx (below_cell hb (by simp) (by simp)) (below_cell hb (by simp) (by simp)) (below_cell hb (by simp) (by simp)) (below_cell hb (by simp) (by simp))
  · intro _ w1 hb
    exact good1_any 1 r.x r.y r.a r.b _ w1 hy (below_cell hb (by simp) (by simp)) (below_cell hb (by simp) (by simp)) (below_cell hb (by simp) (by simp)) (below_cell hb (by simp) (by simp))
  rintro e w1 ⟨rfl, hb1⟩
  go_wp2
  go_ret
  exact ⟨rfl, Below.thn (Below.al1 _ _) hb1⟩

set_option maxHeartbeats 400000 in
theorem empty1_any (k : Int) (r : Rc) (B : Nat) (w : World) (hl : Lies w B r) :
    Makes Try.prog 104 #[.int .i64 k, .pointer (some ⟨B, 0, none⟩)] w (.bool (wayFull (pickI k r.a r.b))) := by
  unfold Makes
  obtain ⟨hc0, hc1, hc2, hc3⟩ := hl
  go_enter Try.func104, Try.ntmps104
  go_wp2_with fail
  refine Calls.mono (reach_any _ _ _ _ _ _) ?_
  rintro e w' ⟨rfl, hb⟩
  go_wp2
  all_goals (go_ret; exact ⟨ret_bool (by rw [Bool.eq_iff_iff]; simp [wayFull]), hb⟩)

set_option maxHeartbeats 400000 in
theorem empty_any (r : Rc) (w : World) (hf : Fit r) : Makes Try.prog 64 #[RV r] w (.bool (emptyR r)) := by
  unfold Makes
  have hmf : ∀ (fn : Fn) (first cap : Array Value) (w : World), (Instr.makeFunc fn first cap).run Try.prog w = .ok (.func fn first cap) w := fun _ _ _ _ => rfl
  go_enter Try.func64, Try.ntmps64
  go_wp2_with fail
  refine Calls.mono (good_any _ _ hf) ?_
  rintro e w1 ⟨rfl, hb1⟩
  cases hg : goodR r
  · have Hg := Lib.hid hg
    clear hg
    go_wp2
    go_ret
    exact ⟨ret_bool (by simp [emptyR, Hg.out]), Below.thn (Below.al1 _ _) hb1⟩
  · have Hg := Lib.hid hg
    clear hg
    go_wp2_with fail
    refine Calls.mono (both_any1 _ _ (wayFull r.a) (wayFull r.b) _ (enters_of Try.func104 (by kernel_rfl) rfl) ?_ ?_) ?_
    · intro w2 hb2
      exact empty1_any 0 r _ w2 (((Lies.new rfl).later hb1).later hb2)
    · intro _ w2 hb2
      exact empty1_any 1 r _ w2 (((Lies.new rfl).later hb1).later hb2)
    rintro e w2 ⟨rfl, hb2⟩
    go_wp2
    go_ret
    exact ⟨ret_bool (by simp [emptyR, fullR, Hg.out]), Below.thn (Below.thn (Below.al1 _ _) hb1) hb2⟩

end Go.Proofs.Ytpddkhhdleknnaa
