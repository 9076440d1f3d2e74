/- Slices as rows of cells: what a slice reads as; a row that is owned and stored into. Nothing here speaks of one program. -/
import Derived.Test.YtonhcdhlinlncaaTurns
import Derived.Deep.DeepCutAuto
import Derived.Sort.CutIn
namespace Go.Proofs.Ytonhcdhlinlncaa
open Go.RowKit

theorem heap_kept_pushed (l : List Obj) (w : World) (k : Nat) (h : k < w.heap.size) : (l.foldl World.alloc w).heap[k]? = w.heap[k]? := by
  induction l generalizing w with
  | nil => rfl
  | cons x l ih => exact (ih (w.alloc x) (by simp; omega)).trans (Below.heap_alloc w x k h)
theorem heap_pushed (l : List Obj) (w : World) (i : Nat) (o : Obj) : (l.foldl World.alloc w).heap[w.heap.size + i]? = some o ↔ l[i]? = some o := by
  induction l generalizing w i with
  | nil => simp
  | cons x l ih =>
    cases i with
    | zero =>
      rw [List.foldl_cons, Nat.add_zero, heap_kept_pushed l (w.alloc x) w.heap.size (by simp), World.alloc_heap_new]
      simp
    | succ i =>
      have := ih (w.alloc x) i
      rw [World.size_alloc, Nat.add_assoc, Nat.add_comm 1 i] at this
      simpa using this
theorem two_set0 {W : World} {B : Nat} {t : TypeId} {a b : Value} (c : Value) (h : W.heap[B]? = some (.cells #[a, b] t)) : (W.setCell ⟨B, 0, none⟩ c).heap[B]? = some (.cells #[c, b] t) := by
  obtain ⟨hlt, hk⟩ := Array.getElem?_eq_some_iff.1 h
  show (W.heap.modify B _)[B]? = _
  rw [Array.getElem?_eq_getElem (by rw [Array.size_modify]; exact hlt), Array.getElem_modify_self, hk]
  rfl
theorem two_set1 {W : World} {B : Nat} {t : TypeId} {a b : Value} (c : Value) (h : W.heap[B]? = some (.cells #[a, b] t)) : (W.setCell ⟨B, 1, none⟩ c).heap[B]? = some (.cells #[a, c] t) := by
  obtain ⟨hlt, hk⟩ := Array.getElem?_eq_some_iff.1 h
  show (W.heap.modify B _)[B]? = _
  rw [Array.getElem?_eq_getElem (by rw [Array.size_modify]; exact hlt), Array.getElem_modify_self, hk]
  rfl
theorem Turns.set {T : Nat → Prop} {a W : World} (h : Turns T a W) {p : Addr} (hp : T p.block) (u : Value) : Turns T a (W.setCell p u) :=
  h.trans ⟨rfl, rfl, rfl, (KeepsWalks.setCell W p u).size, fun k _ hk => Below.heap_setCell _ _ _ k (fun e => hk (e ▸ hp))⟩
theorem Turns.set1 (B : Nat) (W : World) (u : Value) : Turns (fun b => b = B) W (W.setCell ⟨B, 0, none⟩ u) := Turns.set (T := fun b => b = B) (p := ⟨B, 0, none⟩) (Turns.refl _ W) rfl u
theorem Turns.drew {T : Nat → Prop} {a W : World} (h : Turns T a W) : Turns T a W.drew := ⟨h.os, h.tape, h.output, h.size, h.block⟩
theorem Turns.drewN {T : Nat → Prop} {a W : World} (h : Turns T a W) (n : Nat) : Turns T a (W.drewN n) := ⟨h.os, h.tape, h.output, h.size, h.block⟩
theorem size_one {vs : Array Value} (h : vs.size = 1) : ∃ a, vs = #[a] := by
  obtain ⟨l⟩ := vs
  match l, h with
  | [a], _ => exact ⟨a, rfl⟩
theorem size_two {vs : Array Value} (h : vs.size = 2) : ∃ a b, vs = #[a, b] := by
  obtain ⟨l⟩ := vs
  match l, h with
  | [a, b], _ => exact ⟨a, b, rfl⟩

/-- The place p holds, in W, the row xs: elements of k cells each. -/
def RowAt {α : Type} (enc : α → List Value) (k : Nat) (W : World) (p : Option Addr) (xs : List α) : Prop :=
  (p = none ∧ xs = []) ∨ ∃ b off, p = some ⟨b, off, none⟩ ∧ b < W.heap.size ∧ ∀ i x, xs[i]? = some x → ∀ j u, (enc x)[j]? = some u → W.cell? ⟨b, off + i * k + j, none⟩ = some u

/-- The slice v reads, in W, as xs. -/
def Row {α : Type} (enc : α → List Value) (k : Nat) (W : World) (v : Value) (xs : List α) : Prop :=
  ∃ p cap, v = .slice p xs.length cap ∧ xs.length ≤ cap ∧ cap ≤ maxLen ∧ RowAt enc k W p xs

theorem RowAt.turns {α : Type} {enc : α → List Value} {k : Nat} {W W' : World} {p : Option Addr} {xs : List α} {T : Nat → Prop} (h : RowAt enc k W p xs) (ht : Turns T W W') (hn : ∀ a, p = some a → ¬ T a.block) : RowAt enc k W' p xs := by
  rcases h with h | ⟨b, off, rfl, h3, h4⟩
  · exact .inl h
  · exact .inr ⟨b, off, rfl, Nat.lt_of_lt_of_le h3 ht.size, fun i x hi j u hj => (World.cell?_of_block (ht.block b h3 (hn _ rfl))).trans (h4 i x hi j u hj)⟩
theorem Row.turns {α : Type} {enc : α → List Value} {k : Nat} {W W' : World} {v : Value} {xs : List α} {T : Nat → Prop} (h : Row enc k W v xs) (ht : Turns T W W') (hn : ∀ b, v.ownBlock = some b → ¬ T b) : Row enc k W' v xs := by
  obtain ⟨p, cap, rfl, h1, h2, h3⟩ := h
  exact ⟨p, cap, rfl, h1, h2, h3.turns ht (fun a e => hn a.block (by rw [e]; rfl))⟩
theorem RowAt.below {α : Type} {enc : α → List Value} {k : Nat} {W W' : World} {p : Option Addr} {xs : List α} (h : RowAt enc k W p xs) (hb : Below W.heap.size W W') : RowAt enc k W' p xs :=
  h.turns (T := fun _ => False) (Turns.of_below' hb) (fun _ _ h => h)
theorem Row.below {α : Type} {enc : α → List Value} {k : Nat} {W W' : World} {v : Value} {xs : List α} (h : Row enc k W v xs) (hb : Below W.heap.size W W') : Row enc k W' v xs :=
  h.turns (T := fun _ => False) (Turns.of_below' hb) (fun _ _ h => h)
theorem Row.len {α : Type} {enc : α → List Value} {k : Nat} {W : World} {v : Value} {xs : List α} (h : Row enc k W v xs) : xs.length ≤ 9223372036854775807 := by
  obtain ⟨p, cap, rfl, h1, h2, h3⟩ := h; simp only [maxLen] at h2; omega

theorem lt_of_same {w W : World} {b : Nat} (h : b < w.heap.size) (hs : W.heap[b]? = w.heap[b]?) : b < W.heap.size := by
  rw [Array.getElem?_eq_getElem h] at hs
  exact (Array.getElem?_eq_some_iff.1 hs).1
theorem RowAt.same {α : Type} {enc : α → List Value} {k : Nat} {w W : World} {p : Option Addr} {xs : List α} (h : RowAt enc k w p xs) (hs : ∀ a, p = some a → W.heap[a.block]? = w.heap[a.block]?) : RowAt enc k W p xs := by
  rcases h with h | ⟨b, off, rfl, h3, h4⟩
  · exact .inl h
  · exact .inr ⟨b, off, rfl, lt_of_same h3 (hs _ rfl), fun i x hi j u hj => (World.cell?_of_block (a := ⟨b, off + i * k + j, none⟩) (hs ⟨b, off, none⟩ rfl)).trans (h4 i x hi j u hj)⟩
theorem Row.same {α : Type} {enc : α → List Value} {k : Nat} {w W : World} {v : Value} {xs : List α} (h : Row enc k w v xs) (hs : ∀ b, v.ownBlock = some b → W.heap[b]? = w.heap[b]?) : Row enc k W v xs := by
  obtain ⟨p, cap, rfl, h1, h2, h3⟩ := h
  exact ⟨p, cap, rfl, h1, h2, h3.same (fun a e => hs a.block (by rw [e]; rfl))⟩
theorem Boxed.same {w W : World} {B : Nat} {t : TypeId} {v : Value} (h : Boxed w B t v) (hs : W.heap[B]? = w.heap[B]?) : Boxed W B t v := hs.trans h

theorem flat_at' {α : Type} {enc : α → List Value} {k : Nat} (hk : ∀ x, (enc x).length = k) (l : List α) (i j : Nat) (hj : j < k) : (l.flatMap enc)[i * k + j]? = l[i]?.bind (fun x => (enc x)[j]?) := by
  induction l generalizing i with
  | nil => simp
  | cons x l ih =>
    rw [List.flatMap_cons]
    cases i with
    | zero =>
      rw [Nat.zero_mul, Nat.zero_add, List.getElem?_append_left (by rw [hk]; exact hj)]
      simp
    | succ i =>
      rw [List.getElem?_append_right (by rw [hk, Nat.add_mul]; omega), hk, show (i + 1) * k + j - k = i * k + j by rw [Nat.add_mul]; omega, ih]
      simp
theorem owns_row' {α : Type} {enc : α → List Value} {k : Nat} (hk : ∀ x, (enc x).length = k) {W : World} {base : Nat} {e : TypeId} {v : Value} {xs : List α} (h : W.ownsRow base e k v xs.length (xs.flatMap enc)) : Row enc k W v xs := by
  rcases h.2 with ⟨rfl, h0⟩ | ⟨g, cap, cur, rfl, hb, hg, hn, hm, hs, ht⟩
  · have hx : xs = [] := List.eq_nil_of_length_eq_zero h0
    subst hx
    exact ⟨none, 0, rfl, by simp, by simp [maxLen], .inl ⟨rfl, rfl⟩⟩
  · refine ⟨some ⟨g, 0, none⟩, cap, rfl, hn, hm, .inr ⟨g, 0, rfl, (Array.getElem?_eq_some_iff.1 hg).1, fun i x hi j u hj => ?_⟩⟩
    have hjk : j < k := by have := (List.getElem?_eq_some_iff.1 hj).1; rw [hk] at this; exact this
    have h1 := flat_at' hk xs i j hjk
    rw [hi] at h1
    simp only [Option.bind_some] at h1
    rw [hj, ← ht, List.getElem?_take] at h1
    split at h1
    · simp only [Nat.zero_add]
      rw [cell_of_row W g (i * k + j) cur e (0, 0) hg]
      simpa using h1
    · cases h1

theorem owns_slice {W : World} {base : Nat} {e : TypeId} {size : Nat} {v : Value} {n : Nat} {xs : List Value} (h : W.ownsRow base e size v n xs) : ∃ p c, v = .slice p n c := by
  rcases h.2 with ⟨rfl, rfl⟩ | ⟨g, cap, cur, rfl, _⟩
  · exact ⟨_, _, rfl⟩
  · exact ⟨_, _, rfl⟩

theorem owns_nil_cap {W : World} {base : Nat} {e : TypeId} {size : Nat} {v : Value} {n : Nat} {xs : List Value} (h : W.ownsRow base e size v n xs) : ∀ c, v = .slice none 0 c → c = 0 := by
  rintro c rfl
  rcases h.2 with ⟨h0, _⟩ | ⟨g, cap, cur, h1, _⟩
  · cases h0; rfl
  · cases h1

/-- A slice that reads so; nil has no room. -/
structure RwG {α : Type} (enc : α → List Value) (k : Nat) (w : World) (v : Value) (xs : List α) : Prop where
  row : Row enc k w v xs
  nil : ∀ c, v = .slice none 0 c → c = 0

theorem RwG.below {α : Type} {enc : α → List Value} {k : Nat} {w w1 : World} {v : Value} {xs : List α} (h : RwG enc k w v xs) (hb : Below w.heap.size w w1) : RwG enc k w1 v xs := ⟨h.row.below hb, h.nil⟩
theorem RwG.turns {α : Type} {enc : α → List Value} {k : Nat} {w w1 : World} {v : Value} {xs : List α} {T : Nat → Prop} (h : RwG enc k w v xs) (ht : Turns T w w1) (hn : ∀ b, v.ownBlock = some b → ¬ T b) : RwG enc k w1 v xs := ⟨h.row.turns ht hn, h.nil⟩
theorem RwG.owned {α : Type} {enc : α → List Value} {k : Nat} (hk : ∀ x, (enc x).length = k) {w : World} {base : Nat} {e : TypeId} {v : Value} {xs : List α} (h : w.ownsRow base e k v xs.length (xs.flatMap enc)) : RwG enc k w v xs := ⟨owns_row' hk h, owns_nil_cap h⟩
theorem RwG.lt {α : Type} {enc : α → List Value} {k : Nat} {w : World} {v : Value} {xs : List α} (h : RwG enc k w v xs) : ∀ b, v.ownBlock = some b → b < w.heap.size := by
  obtain ⟨⟨p, cap, rfl, -, -, h3⟩, -⟩ := h
  rcases h3 with ⟨rfl, rfl⟩ | ⟨b, off, rfl, h3, h4⟩
  · intro b h; cases h
  · intro b' h; cases h; exact h3

theorem RwG.src {α : Type} {enc : α → List Value} {k : Nat} (hk : ∀ x, (enc x).length = k) (h0 : 0 < k) {w : World} {v : Value} {xs : List α} (h : RwG enc k w v xs) : ∃ p c, v = .slice p xs.length c ∧ xs.length ≤ c ∧ c ≤ maxLen ∧ ((p = none ∧ xs.length = 0 ∧ c = 0) ∨ ∃ ad, p = some ad ∧ ∀ j u, (xs.flatMap enc)[j]? = some u → w.cell? (ad.add j) = some u) := by
  obtain ⟨⟨p, c, rfl, h1, h2, h3⟩, hn⟩ := h
  refine ⟨p, c, rfl, h1, h2, ?_⟩
  rcases h3 with ⟨rfl, rfl⟩ | ⟨b, off, rfl, h4, h5⟩
  · exact .inl ⟨rfl, rfl, hn _ rfl⟩
  · refine .inr ⟨_, rfl, fun j u hu => ?_⟩
    have hm := Nat.mod_lt j h0
    have hj : j / k * k + j % k = j := by rw [Nat.mul_comm]; exact Nat.div_add_mod j k
    have h1 := flat_at' hk xs (j / k) (j % k) hm
    rw [hj, hu] at h1
    cases hx : xs[j / k]? with
    | none => rw [hx] at h1; cases h1
    | some x =>
      rw [hx] at h1
      have h6 := h5 (j / k) x hx (j % k) u h1.symm
      rw [Nat.add_assoc, hj] at h6
      rw [Addr.add_lit]
      exact h6

/-- One cell of a row that is owned, stored anew. -/
theorem owns_setCell {W : World} {base : Nat} {e : TypeId} {size g n cap : Nat} {xs : List Value} (h : W.ownsRow base e size (.slice (some ⟨g, 0, none⟩) n cap) n xs) (j : Nat) (u : Value) :
    (W.setCell ⟨g, j, none⟩ u).ownsRow base e size (.slice (some ⟨g, 0, none⟩) n cap) n (xs.set j u) := by
  rcases h.2 with ⟨h0, _⟩ | ⟨g', cap', cur, h0, hb, hg, hn, hm, hs, ht⟩
  · cases h0
  · cases h0
    have hh : (W.setCell ⟨g, j, none⟩ u).heap[g]? = some (.cells (cur.setIfInBounds j u) e (0, 0)) := by
      obtain ⟨hlt, hk⟩ := Array.getElem?_eq_some_iff.1 hg
      show (W.heap.modify g _)[g]? = _
      rw [Array.getElem?_eq_getElem (by rw [Array.size_modify]; exact hlt), Array.getElem_modify_self, hk]
      simp
    exact ⟨by simpa using h.1, .inr ⟨g, cap, _, rfl, hb, hh, hn, hm, by simpa using hs, by rw [Array.toList_setIfInBounds, List.take_set, ht]⟩⟩

end Go.Proofs.Ytonhcdhlinlncaa
