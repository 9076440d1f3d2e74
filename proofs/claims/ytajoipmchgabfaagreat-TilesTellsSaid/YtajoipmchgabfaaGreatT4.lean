/- Several texts in one, each with its own head. -/
import Derived.Test.YtajoipmchgabfaaGreatT3
import Derived.Deep.DeepCutAuto
import Derived.Sort.CutIn
import Derived.Test.YtajoipmchgabfaaGreatT2
import Derived.Test.YtajoipmchgabfaaGreatT1
/- Slices as rows of cells: what a slice reads as; a row that is owned and stored into. Nothing here speaks of one program. -/
namespace Go.Proofs.YtajoipmchgabfaaGreat
open Go.RowKit

theorem heap_kept_pushed (l : List Obj) (w : World) (k : Nat) (h : k < w.heap.size) : (l.foldl World.alloc w).heap[k]? = w.heap[k]? := by
  induction l generalizing w with
  | nil => rfl
  | cons x l ih => exact (ih (w.alloc x) (by simp; omega)).trans (Below.heap_alloc w x k h)
theorem heap_pushed (l : List Obj) (w : World) (i : Nat) (o : Obj) : (l.foldl World.alloc w).heap[w.heap.size + i]? = some o ↔ l[i]? = some o := by
  induction l generalizing w i with
  | nil => simp
  | cons x l ih =>
    cases i with
    | zero =>
      rw [List.foldl_cons, Nat.add_zero, heap_kept_pushed l (w.alloc x) w.heap.size (by simp), World.alloc_heap_new]
      simp
    | succ i =>
      have := ih (w.alloc x) i
      rw [World.size_alloc, Nat.add_assoc, Nat.add_comm 1 i] at this
      simpa using this
theorem two_set0 {W : World} {B : Nat} {t : TypeId} {a b : Value} (c : Value) (h : W.heap[B]? = some (.cells #[a, b] t)) : (W.setCell ⟨B, 0, none⟩ c).heap[B]? = some (.cells #[c, b] t) := by
  obtain ⟨hlt, hk⟩ := Array.getElem?_eq_some_iff.1 h
  show (W.heap.modify B _)[B]? = _
  rw [Array.getElem?_eq_getElem (by rw [Array.size_modify]; exact hlt), Array.getElem_modify_self, hk]
  rfl
theorem two_set1 {W : World} {B : Nat} {t : TypeId} {a b : Value} (c : Value) (h : W.heap[B]? = some (.cells #[a, b] t)) : (W.setCell ⟨B, 1, none⟩ c).heap[B]? = some (.cells #[a, c] t) := by
  obtain ⟨hlt, hk⟩ := Array.getElem?_eq_some_iff.1 h
  show (W.heap.modify B _)[B]? = _
  rw [Array.getElem?_eq_getElem (by rw [Array.size_modify]; exact hlt), Array.getElem_modify_self, hk]
  rfl
theorem Turns.set {T : Nat → Prop} {a W : World} (h : Turns T a W) {p : Addr} (hp : T p.block) (u : Value) : Turns T a (W.setCell p u) :=
  h.trans ⟨rfl, rfl, rfl, (KeepsWalks.setCell W p u).size, fun k _ hk => Below.heap_setCell _ _ _ k (fun e => hk (e ▸ hp))⟩
theorem Turns.set1 (B : Nat) (W : World) (u : Value) : Turns (fun b => b = B) W (W.setCell ⟨B, 0, none⟩ u) := Turns.set (T := fun b => b = B) (p := ⟨B, 0, none⟩) (Turns.refl _ W) rfl u
theorem Turns.drew {T : Nat → Prop} {a W : World} (h : Turns T a W) : Turns T a W.drew := ⟨h.os, h.tape, h.output, h.size, h.block⟩
theorem Turns.drewN {T : Nat → Prop} {a W : World} (h : Turns T a W) (n : Nat) : Turns T a (W.drewN n) := ⟨h.os, h.tape, h.output, h.size, h.block⟩
theorem size_one {vs : Array Value} (h : vs.size = 1) : ∃ a, vs = #[a] := by
  obtain ⟨l⟩ := vs
  match l, h with
  | [a], _ => exact ⟨a, rfl⟩
theorem size_two {vs : Array Value} (h : vs.size = 2) : ∃ a b, vs = #[a, b] := by
  obtain ⟨l⟩ := vs
  match l, h with
  | [a, b], _ => exact ⟨a, b, rfl⟩

/-- The place p holds, in W, the row xs: elements of k cells each. -/
def RowAt {α : Type} (enc : α → List Value) (k : Nat) (W : World) (p : Option Addr) (xs : List α) : Prop :=
  (p = none ∧ xs = []) ∨ ∃ b off, p = some ⟨b, off, none⟩ ∧ b < W.heap.size ∧ ∀ i x, xs[i]? = some x → ∀ j u, (enc x)[j]? = some u → W.cell? ⟨b, off + i * k + j, none⟩ = some u

/-- The slice v reads, in W, as xs. -/
def Row {α : Type} (enc : α → List Value) (k : Nat) (W : World) (v : Value) (xs : List α) : Prop :=
  ∃ p cap, v = .slice p xs.length cap ∧ xs.length ≤ cap ∧ cap ≤ maxLen ∧ RowAt enc k W p xs

theorem RowAt.turns {α : Type} {enc : α → List Value} {k : Nat} {W W' : World} {p : Option Addr} {xs : List α} {T : Nat → Prop} (h : RowAt enc k W p xs) (ht : Turns T W W') (hn : ∀ a, p = some a → ¬ T a.block) : RowAt enc k W' p xs := by
  rcases h with h | ⟨b, off, rfl, h3, h4⟩
  · exact .inl h
  · exact .inr ⟨b, off, rfl, Nat.lt_of_lt_of_le h3 ht.size, fun i x hi j u hj => (World.cell?_of_block (ht.block b h3 (hn _ rfl))).trans (h4 i x hi j u hj)⟩
theorem Row.turns {α : Type} {enc : α → List Value} {k : Nat} {W W' : World} {v : Value} {xs : List α} {T : Nat → Prop} (h : Row enc k W v xs) (ht : Turns T W W') (hn : ∀ b, v.ownBlock = some b → ¬ T b) : Row enc k W' v xs := by
  obtain ⟨p, cap, rfl, h1, h2, h3⟩ := h
  exact ⟨p, cap, rfl, h1, h2, h3.turns ht (fun a e => hn a.block (by rw [e]; rfl))⟩
theorem RowAt.below {α : Type} {enc : α → List Value} {k : Nat} {W W' : World} {p : Option Addr} {xs : List α} (h : RowAt enc k W p xs) (hb : Below W.heap.size W W') : RowAt enc k W' p xs :=
  h.turns (T := fun _ => False) (Turns.of_below' hb) (fun _ _ h => h)
theorem Row.below {α : Type} {enc : α → List Value} {k : Nat} {W W' : World} {v : Value} {xs : List α} (h : Row enc k W v xs) (hb : Below W.heap.size W W') : Row enc k W' v xs :=
  h.turns (T := fun _ => False) (Turns.of_below' hb) (fun _ _ h => h)
theorem Row.len {α : Type} {enc : α → List Value} {k : Nat} {W : World} {v : Value} {xs : List α} (h : Row enc k W v xs) : xs.length ≤ 9223372036854775807 := by
  obtain ⟨p, cap, rfl, h1, h2, h3⟩ := h; simp only [maxLen] at h2; omega

theorem lt_of_same {w W : World} {b : Nat} (h : b < w.heap.size) (hs : W.heap[b]? = w.heap[b]?) : b < W.heap.size := by
  rw [Array.getElem?_eq_getElem h] at hs
  exact (Array.getElem?_eq_some_iff.1 hs).1
theorem RowAt.same {α : Type} {enc : α → List Value} {k : Nat} {w W : World} {p : Option Addr} {xs : List α} (h : RowAt enc k w p xs) (hs : ∀ a, p = some a → W.heap[a.block]? = w.heap[a.block]?) : RowAt enc k W p xs := by
  rcases h with h | ⟨b, off, rfl, h3, h4⟩
  · exact .inl h
  · exact .inr ⟨b, off, rfl, lt_of_same h3 (hs _ rfl), fun i x hi j u hj => (World.cell?_of_block (a := ⟨b, off + i * k + j, none⟩) (hs ⟨b, off, none⟩ rfl)).trans (h4 i x hi j u hj)⟩
theorem Row.same {α : Type} {enc : α → List Value} {k : Nat} {w W : World} {v : Value} {xs : List α} (h : Row enc k w v xs) (hs : ∀ b, v.ownBlock = some b → W.heap[b]? = w.heap[b]?) : Row enc k W v xs := by
  obtain ⟨p, cap, rfl, h1, h2, h3⟩ := h
  exact ⟨p, cap, rfl, h1, h2, h3.same (fun a e => hs a.block (by rw [e]; rfl))⟩
theorem Boxed.same {w W : World} {B : Nat} {t : TypeId} {v : Value} (h : Boxed w B t v) (hs : W.heap[B]? = w.heap[B]?) : Boxed W B t v := hs.trans h

theorem flat_at' {α : Type} {enc : α → List Value} {k : Nat} (hk : ∀ x, (enc x).length = k) (l : List α) (i j : Nat) (hj : j < k) : (l.flatMap enc)[i * k + j]? = l[i]?.bind (fun x => (enc x)[j]?) := by
  induction l generalizing i with
  | nil => simp
  | cons x l ih =>
    rw [List.flatMap_cons]
    cases i with
    | zero =>
      rw [Nat.zero_mul, Nat.zero_add, List.getElem?_append_left (by rw [hk]; exact hj)]
      simp
    | succ i =>
      rw [List.getElem?_append_right (by rw [hk, Nat.add_mul]; omega), hk, show (i + 1) * k + j - k = i * k + j by rw [Nat.add_mul]; omega, ih]
      simp
theorem owns_row' {α : Type} {enc : α → List Value} {k : Nat} (hk : ∀ x, (enc x).length = k) {W : World} {base : Nat} {e : TypeId} {v : Value} {xs : List α} (h : W.ownsRow base e k v xs.length (xs.flatMap enc)) : Row enc k W v xs := by
  rcases h.2 with ⟨rfl, h0⟩ | ⟨g, cap, cur, rfl, hb, hg, hn, hm, hs, ht⟩
  · have hx : xs = [] := List.eq_nil_of_length_eq_zero h0
    subst hx
    exact ⟨none, 0, rfl, by simp, by simp [maxLen], .inl ⟨rfl, rfl⟩⟩
  · refine ⟨some ⟨g, 0, none⟩, cap, rfl, hn, hm, .inr ⟨g, 0, rfl, (Array.getElem?_eq_some_iff.1 hg).1, fun i x hi j u hj => ?_⟩⟩
    have hjk : j < k := by have := (List.getElem?_eq_some_iff.1 hj).1; rw [hk] at this; exact this
    have h1 := flat_at' hk xs i j hjk
    rw [hi] at h1
    simp only [Option.bind_some] at h1
    rw [hj, ← ht, List.getElem?_take] at h1
    split at h1
    · simp only [Nat.zero_add]
      rw [cell_of_row W g (i * k + j) cur e (0, 0) hg]
      simpa using h1
    · cases h1

theorem owns_slice {W : World} {base : Nat} {e : TypeId} {size : Nat} {v : Value} {n : Nat} {xs : List Value} (h : W.ownsRow base e size v n xs) : ∃ p c, v = .slice p n c := by
  rcases h.2 with ⟨rfl, rfl⟩ | ⟨g, cap, cur, rfl, _⟩
  · exact ⟨_, _, rfl⟩
  · exact ⟨_, _, rfl⟩

theorem owns_nil_cap {W : World} {base : Nat} {e : TypeId} {size : Nat} {v : Value} {n : Nat} {xs : List Value} (h : W.ownsRow base e size v n xs) : ∀ c, v = .slice none 0 c → c = 0 := by
  rintro c rfl
  rcases h.2 with ⟨h0, _⟩ | ⟨g, cap, cur, h1, _⟩
  · cases h0; rfl
  · cases h1

/-- A slice that reads so; nil has no room. -/
structure RwG {α : Type} (enc : α → List Value) (k : Nat) (w : World) (v : Value) (xs : List α) : Prop where
  row : Row enc k w v xs
  nil : ∀ c, v = .slice none 0 c → c = 0

theorem RwG.below {α : Type} {enc : α → List Value} {k : Nat} {w w1 : World} {v : Value} {xs : List α} (h : RwG enc k w v xs) (hb : Below w.heap.size w w1) : RwG enc k w1 v xs := ⟨h.row.below hb, h.nil⟩
theorem RwG.turns {α : Type} {enc : α → List Value} {k : Nat} {w w1 : World} {v : Value} {xs : List α} {T : Nat → Prop} (h : RwG enc k w v xs) (ht : Turns T w w1) (hn : ∀ b, v.ownBlock = some b → ¬ T b) : RwG enc k w1 v xs := ⟨h.row.turns ht hn, h.nil⟩
theorem RwG.owned {α : Type} {enc : α → List Value} {k : Nat} (hk : ∀ x, (enc x).length = k) {w : World} {base : Nat} {e : TypeId} {v : Value} {xs : List α} (h : w.ownsRow base e k v xs.length (xs.flatMap enc)) : RwG enc k w v xs := ⟨owns_row' hk h, owns_nil_cap h⟩
theorem RwG.lt {α : Type} {enc : α → List Value} {k : Nat} {w : World} {v : Value} {xs : List α} (h : RwG enc k w v xs) : ∀ b, v.ownBlock = some b → b < w.heap.size := by
  obtain ⟨⟨p, cap, rfl, -, -, h3⟩, -⟩ := h
  rcases h3 with ⟨rfl, rfl⟩ | ⟨b, off, rfl, h3, h4⟩
  · intro b h; cases h
  · intro b' h; cases h; exact h3

theorem RwG.src {α : Type} {enc : α → List Value} {k : Nat} (hk : ∀ x, (enc x).length = k) (h0 : 0 < k) {w : World} {v : Value} {xs : List α} (h : RwG enc k w v xs) : ∃ p c, v = .slice p xs.length c ∧ xs.length ≤ c ∧ c ≤ maxLen ∧ ((p = none ∧ xs.length = 0 ∧ c = 0) ∨ ∃ ad, p = some ad ∧ ∀ j u, (xs.flatMap enc)[j]? = some u → w.cell? (ad.add j) = some u) := by
  obtain ⟨⟨p, c, rfl, h1, h2, h3⟩, hn⟩ := h
  refine ⟨p, c, rfl, h1, h2, ?_⟩
  rcases h3 with ⟨rfl, rfl⟩ | ⟨b, off, rfl, h4, h5⟩
  · exact .inl ⟨rfl, rfl, hn _ rfl⟩
  · refine .inr ⟨_, rfl, fun j u hu => ?_⟩
    have hm := Nat.mod_lt j h0
    have hj : j / k * k + j % k = j := by rw [Nat.mul_comm]; exact Nat.div_add_mod j k
    have h1 := flat_at' hk xs (j / k) (j % k) hm
    rw [hj, hu] at h1
    cases hx : xs[j / k]? with
    | none => rw [hx] at h1; cases h1
    | some x =>
      rw [hx] at h1
      have h6 := h5 (j / k) x hx (j % k) u h1.symm
      rw [Nat.add_assoc, hj] at h6
      rw [Addr.add_lit]
      exact h6

/-- One cell of a row that is owned, stored anew. -/
theorem owns_setCell {W : World} {base : Nat} {e : TypeId} {size g n cap : Nat} {xs : List Value} (h : W.ownsRow base e size (.slice (some ⟨g, 0, none⟩) n cap) n xs) (j : Nat) (u : Value) :
    (W.setCell ⟨g, j, none⟩ u).ownsRow base e size (.slice (some ⟨g, 0, none⟩) n cap) n (xs.set j u) := by
  rcases h.2 with ⟨h0, _⟩ | ⟨g', cap', cur, h0, hb, hg, hn, hm, hs, ht⟩
  · cases h0
  · cases h0
    have hh : (W.setCell ⟨g, j, none⟩ u).heap[g]? = some (.cells (cur.setIfInBounds j u) e (0, 0)) := by
      obtain ⟨hlt, hk⟩ := Array.getElem?_eq_some_iff.1 hg
      show (W.heap.modify g _)[g]? = _
      rw [Array.getElem?_eq_getElem (by rw [Array.size_modify]; exact hlt), Array.getElem_modify_self, hk]
      simp
    exact ⟨by simpa using h.1, .inr ⟨g, cap, _, rfl, hb, hh, hn, hm, by simpa using hs, by rw [Array.toList_setIfInBounds, List.take_set, ht]⟩⟩

end Go.Proofs.YtajoipmchgabfaaGreat

/- Slices of rectangles as rows of cells. -/
namespace Go.Proofs.YtajoipmchgabfaaGreat
open Go.RowKit

instance : Inhabited Rc := ⟨⟨0, 0, 0, 0⟩⟩

def encR (r : Rc) : List Value := [.int .i64 r.x, .int .i64 r.y, .int .i64 r.a, .int .i64 r.b]

/-- A rectangle's four cells, from o on. -/
structure LiesAt (w : World) (b o : Nat) (r : Rc) : Prop where
  c0 : w.cell? ⟨b, o, none⟩ = some (.int .i64 r.x)
  c1 : w.cell? ⟨b, o + 1, none⟩ = some (.int .i64 r.y)
  c2 : w.cell? ⟨b, o + 2, none⟩ = some (.int .i64 r.a)
  c3 : w.cell? ⟨b, o + 3, none⟩ = some (.int .i64 r.b)

theorem LiesAt.later {w w1 : World} {b o : Nat} {r : Rc} (h : LiesAt w b o r) (hb : Below w.heap.size w w1) : LiesAt w1 b o r :=
  ⟨cell_later hb h.c0, cell_later hb h.c1, cell_later hb h.c2, cell_later hb h.c3⟩

/-- Where a row of rectangles has an element i. -/
theorem RowAt.rc {W : World} {p : Option Addr} {xs : List Rc} (h : RowAt encR 4 W p xs) {i : Nat} (hi : i < xs.length) : ∃ b off, p = some ⟨b, off, none⟩ ∧ b < W.heap.size ∧ ∀ j (hj : j < xs.length), LiesAt W b (off + j * 4) xs[j] := by
  rcases h with ⟨_, rfl⟩ | ⟨b, off, rfl, h3, h4⟩
  · simp at hi
  · exact ⟨b, off, rfl, h3, fun j hj => ⟨h4 j _ (List.getElem?_eq_getElem hj) 0 _ rfl, h4 j _ (List.getElem?_eq_getElem hj) 1 _ rfl, h4 j _ (List.getElem?_eq_getElem hj) 2 _ rfl, h4 j _ (List.getElem?_eq_getElem hj) 3 _ rfl⟩⟩

end Go.Proofs.YtajoipmchgabfaaGreat

/- Regions that draw their order and whose calls only make memory: one walk in the order of the text. Nothing here speaks of one program. -/
namespace Go.Proofs.YtajoipmchgabfaaGreat
open Go.RowKit

/-- A world in which all that w had is as it was. -/
structure After (w : World) where
  world : World
  below : Below w.heap.size w world

theorem After.ne (w : World) : Nonempty (After w) := ⟨⟨w, Below.refl _ _⟩⟩

theorem After.cell {w : World} {a : Addr} {v : Value} (h : w.cell? a = some v) (n : After w) : n.world.cell? a = some v := cell_later n.below h

/-- A call that only makes memory, met in such a world. -/
theorem Makes.after {P : Program} {f : FuncId} {args : Array Value} {w : World} {v : Value} {n : After w} (h : Makes P f args n.world v) :
    Calls P f args n.world fun e w'' => e = .returned v ∧ ∃ m : After w, w'' = m.world :=
  Calls.mono h fun _ w'' ⟨he, hb⟩ => ⟨he, ⟨w'', Below.thn n.below hb⟩, rfl⟩

theorem wp_region_after {P : Program} {id : Nat} {Q : Exit → Act → World → Prop} {a : Act} {w : World} {l : List Oper} (hm : P.follows .mixedOrders = true) (hB : Region.lexB .any l.toArray = true)
    (h : wpQuiet P l.toArray (fun w' => ∃ n : After w, w' = n.world) (fun a' => ∀ w', (∃ n : After w, w' = n.world) → Q .normal a' w') l a) : (Code.region id l.toArray true).wp P Q a w :=
  wp_region_quiet (C := fun w' => ∃ n : After w, w' = n.world) hm hB ⟨⟨w.drew, Below.drew (Below.refl _ _)⟩, rfl⟩ (by simpa using h)

theorem After.rule {W : World} {a : Addr} {v : Value} (h : W.cell? a = some v) : ∀ n : After W, n.world.cell? a = some v := fun n => cell_later n.below h

/-- The same from a world of the class on, behind an earlier region. -/
theorem wp_region_in {P : Program} {id : Nat} {Q : Exit → Act → World → Prop} {a : Act} {W : World} {l : List Oper} (n : After W) (hm : P.follows .mixedOrders = true) (hB : Region.lexB .any l.toArray = true)
    (h : wpQuiet P l.toArray (fun w' => ∃ m : After W, w' = m.world) (fun a' => ∀ w', (∃ m : After W, w' = m.world) → Q .normal a' w') l a) : (Code.region id l.toArray true).wp P Q a n.world :=
  wp_region_quiet (C := fun w' => ∃ m : After W, w' = m.world) hm hB ⟨⟨n.world.drew, Below.drew n.below⟩, rfl⟩ (by simpa using h)

theorem wpList_of_quiet {P : Program} {ops : Array Oper} {C : World → Prop} {Q : Act → Prop} {Q' : Exit → Act → World → Prop} (hQ : ∀ a w, C w → Q a → Q' .normal a w) : ∀ (l : List Oper) (a : Act) (w : World), C w → wpQuiet P ops C Q l a → wpList P ops Q' l a w
  | [], _, _, hw, h => hQ _ _ hw h
  | o :: rest, a, w, hw, h => by
    unfold wpQuiet at h
    unfold wpList
    split
    · rename_i hh
      rw [if_pos hh] at h
      exact Or.inl (Oper.wp_of_quiet hw (fun a' w' hw' hk => wpList_of_quiet hQ rest a' w' hw' hk) h)
    · rename_i hh
      rw [if_neg hh] at h
      exact wpList_of_quiet hQ rest _ w hw h

/-- A region whose order is the text's: the same walk. -/
theorem wp_region_seq {P : Program} {id : Nat} {Q : Exit → Act → World → Prop} {a : Act} {W : World} {l : List Oper} (n : After W)
    (h : wpQuiet P l.toArray (fun w' => ∃ m : After W, w' = m.world) (fun a' => ∀ w', (∃ m : After W, w' = m.world) → Q .normal a' w') l a) : (Code.region id l.toArray false).wp P Q a n.world :=
  wp_region_lit (wpList_of_quiet (C := fun w' => ∃ m : After W, w' = m.world) (fun _ w' hw' h => h w' hw') _ _ _ ⟨n, rfl⟩ h)

end Go.Proofs.YtajoipmchgabfaaGreat

/- Edges: their cells, rows of them, and how a list falls into runs of one place. -/
namespace Go.Proofs.YtajoipmchgabfaaGreat
open Go.RowKit

/-- An edge of a rectangle. -/
structure Ed where
  pl : Int
  li : Int
  tu : Int
  rc : Rc

instance : Inhabited Ed := ⟨⟨0, 0, 0, default⟩⟩

def encE (e : Ed) : List Value := [.int .i64 e.pl, .int .i64 e.li, .int .i64 e.tu, .int .i64 e.rc.x, .int .i64 e.rc.y, .int .i64 e.rc.a, .int .i64 e.rc.b]
abbrev EV (e : Ed) : Value := .agg #[.int .i64 e.pl, .int .i64 e.li, .int .i64 e.tu, .int .i64 e.rc.x, .int .i64 e.rc.y, .int .i64 e.rc.a, .int .i64 e.rc.b]

structure LiesE (w : World) (b o : Nat) (e : Ed) : Prop where
  c0 : w.cell? ⟨b, o, none⟩ = some (.int .i64 e.pl)
  c1 : w.cell? ⟨b, o + 1, none⟩ = some (.int .i64 e.li)
  c2 : w.cell? ⟨b, o + 2, none⟩ = some (.int .i64 e.tu)
  c3 : w.cell? ⟨b, o + 3, none⟩ = some (.int .i64 e.rc.x)
  c4 : w.cell? ⟨b, o + 4, none⟩ = some (.int .i64 e.rc.y)
  c5 : w.cell? ⟨b, o + 5, none⟩ = some (.int .i64 e.rc.a)
  c6 : w.cell? ⟨b, o + 6, none⟩ = some (.int .i64 e.rc.b)

theorem LiesE.later {w w1 : World} {b o : Nat} {r : Ed} (h : LiesE w b o r) (hb : Below w.heap.size w w1) : LiesE w1 b o r :=
  ⟨cell_later hb h.c0, cell_later hb h.c1, cell_later hb h.c2, cell_later hb h.c3, cell_later hb h.c4, cell_later hb h.c5, cell_later hb h.c6⟩

theorem RowAt.ed {W : World} {p : Option Addr} {xs : List Ed} (h : RowAt encE 7 W p xs) {i : Nat} (hi : i < xs.length) : ∃ b off, p = some ⟨b, off, none⟩ ∧ b < W.heap.size ∧ ∀ j (hj : j < xs.length), LiesE W b (off + j * 7) xs[j] := by
  rcases h with ⟨_, rfl⟩ | ⟨b, off, rfl, h3, h4⟩
  · simp at hi
  · exact ⟨b, off, rfl, h3, fun j hj => by
      have h := fun k u hk => h4 j _ (List.getElem?_eq_getElem hj) k u hk
      exact ⟨h 0 _ rfl, h 1 _ rfl, h 2 _ rfl, h 3 _ rfl, h 4 _ rfl, h 5 _ rfl, h 6 _ rfl⟩⟩

/-- A list in runs of one key. -/
def grp {α : Type} (key : α → Int) : List α → List (Int × List α)
  | [] => []
  | x :: l => match grp key l with
    | [] => [(key x, [x])]
    | (y, g) :: rest => if y = key x then (y, x :: g) :: rest else (key x, [x]) :: (y, g) :: rest

theorem grp_head {α : Type} (key : α → Int) (x : α) (l : List α) : ∃ g rest, grp key (x :: l) = (key x, x :: g) :: rest := by
  simp only [grp]
  split
  · exact ⟨_, _, rfl⟩
  · split
    · rename_i h; exact ⟨_, _, by rw [h]⟩
    · exact ⟨_, _, rfl⟩

theorem grp_run {α : Type} (key : α → Int) (c : Int) (s r : List α) (hs : s ≠ []) (hk : ∀ x ∈ s, key x = c) (hr : ∀ x, r.head? = some x → key x ≠ c) : grp key (s ++ r) = (c, s) :: grp key r := by
  induction s with
  | nil => simp at hs
  | cons x s ih =>
    have hx := hk x (by simp)
    cases s with
    | nil =>
      simp only [List.cons_append, List.nil_append, grp]
      cases r with
      | nil => simp [grp, hx]
      | cons z r =>
        obtain ⟨g, rest, hg⟩ := grp_head key z r
        rw [hg]
        have := hr z rfl
        simp only [hx]
        rw [if_neg this]
    | cons y s =>
      rw [List.cons_append, grp, ih (by simp) (fun z hz => hk z (by simp [hz]))]
      simp [hx]

theorem RowAt.sub {α : Type} {enc : α → List Value} {k : Nat} {W : World} {b off : Nat} {xs : List α} (h : RowAt enc k W (some ⟨b, off, none⟩) xs) (i m : Nat) : RowAt enc k W (some ⟨b, off + i * k, none⟩) ((xs.drop i).take m) := by
  rcases h with ⟨h, _⟩ | ⟨b', off', h, h3, h4⟩
  · cases h
  · cases h
    refine .inr ⟨b, _, rfl, h3, fun j x hj c u hu => ?_⟩
    rw [List.getElem?_take] at hj
    split at hj
    · rw [List.getElem?_drop] at hj
      have := h4 _ x hj c u hu
      rw [Nat.add_mul] at this
      rw [← this]
      congr 2
      omega
    · cases hj

end Go.Proofs.YtajoipmchgabfaaGreat
