/- Several texts in one, each with its own head. -/
import Derived.Test.YtoladolgmeanhaaGreatQc3
import Derived.Deep.DeepCutAuto
import Derived.Sort.CutIn
import Derived.Test.YtoladolgmeanhaaGreatQc1
import Derived.Test.YtoladolgmeanhaaGreatQc2
import Derived.Laws.BitsLemmas
import Derived.IntWalk
import Derived.Handy
import Derived.Deep.QuietTactic
import Derived.BigQuiet
import Derived.BigRegion
/- Slices as rows of cells: what a slice reads as; a row that is owned and stored into. Nothing here speaks of one program. -/
namespace Go.Proofs.YtoladolgmeanhaaGreat
open Go.RowKit

theorem heap_kept_pushed (l : List Obj) (w : World) (k : Nat) (h : k < w.heap.size) : (l.foldl World.alloc w).heap[k]? = w.heap[k]? := by
  induction l generalizing w with
  | nil => rfl
  | cons x l ih => exact (ih (w.alloc x) (by simp; omega)).trans (Below.heap_alloc w x k h)
theorem heap_pushed (l : List Obj) (w : World) (i : Nat) (o : Obj) : (l.foldl World.alloc w).heap[w.heap.size + i]? = some o ↔ l[i]? = some o := by
  induction l generalizing w i with
  | nil => simp
  | cons x l ih =>
    cases i with
    | zero =>
      rw [List.foldl_cons, Nat.add_zero, heap_kept_pushed l (w.alloc x) w.heap.size (by simp), World.alloc_heap_new]
      simp
    | succ i =>
      have := ih (w.alloc x) i
      rw [World.size_alloc, Nat.add_assoc, Nat.add_comm 1 i] at this
      simpa using this
theorem two_set0 {W : World} {B : Nat} {t : TypeId} {a b : Value} (c : Value) (h : W.heap[B]? = some (.cells #[a, b] t)) : (W.setCell ⟨B, 0, none⟩ c).heap[B]? = some (.cells #[c, b] t) := by
  obtain ⟨hlt, hk⟩ := Array.getElem?_eq_some_iff.1 h
  show (W.heap.modify B _)[B]? = _
  rw [Array.getElem?_eq_getElem (by rw [Array.size_modify]; exact hlt), Array.getElem_modify_self, hk]
  rfl
theorem two_set1 {W : World} {B : Nat} {t : TypeId} {a b : Value} (c : Value) (h : W.heap[B]? = some (.cells #[a, b] t)) : (W.setCell ⟨B, 1, none⟩ c).heap[B]? = some (.cells #[a, c] t) := by
  obtain ⟨hlt, hk⟩ := Array.getElem?_eq_some_iff.1 h
  show (W.heap.modify B _)[B]? = _
  rw [Array.getElem?_eq_getElem (by rw [Array.size_modify]; exact hlt), Array.getElem_modify_self, hk]
  rfl
theorem Turns.set {T : Nat → Prop} {a W : World} (h : Turns T a W) {p : Addr} (hp : T p.block) (u : Value) : Turns T a (W.setCell p u) :=
  h.trans ⟨rfl, rfl, rfl, (KeepsWalks.setCell W p u).size, fun k _ hk => Below.heap_setCell _ _ _ k (fun e => hk (e ▸ hp))⟩
theorem Turns.set1 (B : Nat) (W : World) (u : Value) : Turns (fun b => b = B) W (W.setCell ⟨B, 0, none⟩ u) := Turns.set (T := fun b => b = B) (p := ⟨B, 0, none⟩) (Turns.refl _ W) rfl u
theorem Turns.drew {T : Nat → Prop} {a W : World} (h : Turns T a W) : Turns T a W.drew := ⟨h.os, h.tape, h.output, h.size, h.block⟩
theorem Turns.drewN {T : Nat → Prop} {a W : World} (h : Turns T a W) (n : Nat) : Turns T a (W.drewN n) := ⟨h.os, h.tape, h.output, h.size, h.block⟩
theorem size_one {vs : Array Value} (h : vs.size = 1) : ∃ a, vs = #[a] := by
  obtain ⟨l⟩ := vs
  match l, h with
  | [a], _ => exact ⟨a, rfl⟩
def RowAt {α : Type} (enc : α → List Value) (k : Nat) (W : World) (p : Option Addr) (xs : List α) : Prop :=
  (p = none ∧ xs = []) ∨ ∃ b off, p = some ⟨b, off, none⟩ ∧ b < W.heap.size ∧ ∀ i x, xs[i]? = some x → ∀ j u, (enc x)[j]? = some u → W.cell? ⟨b, off + i * k + j, none⟩ = some u
def Row {α : Type} (enc : α → List Value) (k : Nat) (W : World) (v : Value) (xs : List α) : Prop :=
  ∃ p cap, v = .slice p xs.length cap ∧ xs.length ≤ cap ∧ cap ≤ maxLen ∧ RowAt enc k W p xs
theorem RowAt.turns {α : Type} {enc : α → List Value} {k : Nat} {W W' : World} {p : Option Addr} {xs : List α} {T : Nat → Prop} (h : RowAt enc k W p xs) (ht : Turns T W W') (hn : ∀ a, p = some a → ¬ T a.block) : RowAt enc k W' p xs := by
  rcases h with h | ⟨b, off, rfl, h3, h4⟩
  · exact .inl h
  · exact .inr ⟨b, off, rfl, Nat.lt_of_lt_of_le h3 ht.size, fun i x hi j u hj => (World.cell?_of_block (ht.block b h3 (hn _ rfl))).trans (h4 i x hi j u hj)⟩
theorem Row.turns {α : Type} {enc : α → List Value} {k : Nat} {W W' : World} {v : Value} {xs : List α} {T : Nat → Prop} (h : Row enc k W v xs) (ht : Turns T W W') (hn : ∀ b, v.ownBlock = some b → ¬ T b) : Row enc k W' v xs := by
  obtain ⟨p, cap, rfl, h1, h2, h3⟩ := h
  exact ⟨p, cap, rfl, h1, h2, h3.turns ht (fun a e => hn a.block (by rw [e]; rfl))⟩
theorem RowAt.below {α : Type} {enc : α → List Value} {k : Nat} {W W' : World} {p : Option Addr} {xs : List α} (h : RowAt enc k W p xs) (hb : Below W.heap.size W W') : RowAt enc k W' p xs :=
  h.turns (T := fun _ => False) (Turns.of_below' hb) (fun _ _ h => h)
theorem Row.below {α : Type} {enc : α → List Value} {k : Nat} {W W' : World} {v : Value} {xs : List α} (h : Row enc k W v xs) (hb : Below W.heap.size W W') : Row enc k W' v xs :=
  h.turns (T := fun _ => False) (Turns.of_below' hb) (fun _ _ h => h)
theorem Row.len {α : Type} {enc : α → List Value} {k : Nat} {W : World} {v : Value} {xs : List α} (h : Row enc k W v xs) : xs.length ≤ 9223372036854775807 := by
  obtain ⟨p, cap, rfl, h1, h2, h3⟩ := h; simp only [maxLen] at h2; omega
theorem lt_of_same {w W : World} {b : Nat} (h : b < w.heap.size) (hs : W.heap[b]? = w.heap[b]?) : b < W.heap.size := by
  rw [Array.getElem?_eq_getElem h] at hs
  exact (Array.getElem?_eq_some_iff.1 hs).1
theorem RowAt.same {α : Type} {enc : α → List Value} {k : Nat} {w W : World} {p : Option Addr} {xs : List α} (h : RowAt enc k w p xs) (hs : ∀ a, p = some a → W.heap[a.block]? = w.heap[a.block]?) : RowAt enc k W p xs := by
  rcases h with h | ⟨b, off, rfl, h3, h4⟩
  · exact .inl h
  · exact .inr ⟨b, off, rfl, lt_of_same h3 (hs _ rfl), fun i x hi j u hj => (World.cell?_of_block (a := ⟨b, off + i * k + j, none⟩) (hs ⟨b, off, none⟩ rfl)).trans (h4 i x hi j u hj)⟩
theorem Row.same {α : Type} {enc : α → List Value} {k : Nat} {w W : World} {v : Value} {xs : List α} (h : Row enc k w v xs) (hs : ∀ b, v.ownBlock = some b → W.heap[b]? = w.heap[b]?) : Row enc k W v xs := by
  obtain ⟨p, cap, rfl, h1, h2, h3⟩ := h
  exact ⟨p, cap, rfl, h1, h2, h3.same (fun a e => hs a.block (by rw [e]; rfl))⟩
theorem flat_at' {α : Type} {enc : α → List Value} {k : Nat} (hk : ∀ x, (enc x).length = k) (l : List α) (i j : Nat) (hj : j < k) : (l.flatMap enc)[i * k + j]? = l[i]?.bind (fun x => (enc x)[j]?) := by
  induction l generalizing i with
  | nil => simp
  | cons x l ih =>
    rw [List.flatMap_cons]
    cases i with
    | zero =>
      rw [Nat.zero_mul, Nat.zero_add, List.getElem?_append_left (by rw [hk]; exact hj)]
      simp
    | succ i =>
      rw [List.getElem?_append_right (by rw [hk, Nat.add_mul]; omega), hk, show (i + 1) * k + j - k = i * k + j by rw [Nat.add_mul]; omega, ih]
      simp
theorem owns_row' {α : Type} {enc : α → List Value} {k : Nat} (hk : ∀ x, (enc x).length = k) {W : World} {base : Nat} {e : TypeId} {v : Value} {xs : List α} (h : W.ownsRow base e k v xs.length (xs.flatMap enc)) : Row enc k W v xs := by
  rcases h.2 with ⟨rfl, h0⟩ | ⟨g, cap, cur, rfl, hb, hg, hn, hm, hs, ht⟩
  · have hx : xs = [] := List.eq_nil_of_length_eq_zero h0
    subst hx
    exact ⟨none, 0, rfl, by simp, by simp [maxLen], .inl ⟨rfl, rfl⟩⟩
  · refine ⟨some ⟨g, 0, none⟩, cap, rfl, hn, hm, .inr ⟨g, 0, rfl, (Array.getElem?_eq_some_iff.1 hg).1, fun i x hi j u hj => ?_⟩⟩
    have hjk : j < k := by have := (List.getElem?_eq_some_iff.1 hj).1; rw [hk] at this; exact this
    have h1 := flat_at' hk xs i j hjk
    rw [hi] at h1
    simp only [Option.bind_some] at h1
    rw [hj, ← ht, List.getElem?_take] at h1
    split at h1
    · simp only [Nat.zero_add]
      rw [cell_of_row W g (i * k + j) cur e (0, 0) hg]
      simpa using h1
    · cases h1
theorem owns_slice {W : World} {base : Nat} {e : TypeId} {size : Nat} {v : Value} {n : Nat} {xs : List Value} (h : W.ownsRow base e size v n xs) : ∃ p c, v = .slice p n c := by
  rcases h.2 with ⟨rfl, rfl⟩ | ⟨g, cap, cur, rfl, _⟩
  · exact ⟨_, _, rfl⟩
  · exact ⟨_, _, rfl⟩
theorem owns_nil_cap {W : World} {base : Nat} {e : TypeId} {size : Nat} {v : Value} {n : Nat} {xs : List Value} (h : W.ownsRow base e size v n xs) : ∀ c, v = .slice none 0 c → c = 0 := by
  rintro c rfl
  rcases h.2 with ⟨h0, _⟩ | ⟨g, cap, cur, h1, _⟩
  · cases h0; rfl
  · cases h1
structure RwG {α : Type} (enc : α → List Value) (k : Nat) (w : World) (v : Value) (xs : List α) : Prop where
  row : Row enc k w v xs
  nil : ∀ c, v = .slice none 0 c → c = 0
theorem RwG.below {α : Type} {enc : α → List Value} {k : Nat} {w w1 : World} {v : Value} {xs : List α} (h : RwG enc k w v xs) (hb : Below w.heap.size w w1) : RwG enc k w1 v xs := ⟨h.row.below hb, h.nil⟩
theorem RwG.turns {α : Type} {enc : α → List Value} {k : Nat} {w w1 : World} {v : Value} {xs : List α} {T : Nat → Prop} (h : RwG enc k w v xs) (ht : Turns T w w1) (hn : ∀ b, v.ownBlock = some b → ¬ T b) : RwG enc k w1 v xs := ⟨h.row.turns ht hn, h.nil⟩
theorem RwG.owned {α : Type} {enc : α → List Value} {k : Nat} (hk : ∀ x, (enc x).length = k) {w : World} {base : Nat} {e : TypeId} {v : Value} {xs : List α} (h : w.ownsRow base e k v xs.length (xs.flatMap enc)) : RwG enc k w v xs := ⟨owns_row' hk h, owns_nil_cap h⟩
theorem RwG.lt {α : Type} {enc : α → List Value} {k : Nat} {w : World} {v : Value} {xs : List α} (h : RwG enc k w v xs) : ∀ b, v.ownBlock = some b → b < w.heap.size := by
  obtain ⟨⟨p, cap, rfl, -, -, h3⟩, -⟩ := h
  rcases h3 with ⟨rfl, rfl⟩ | ⟨b, off, rfl, h3, h4⟩
  · intro b h; cases h
  · intro b' h; cases h; exact h3
theorem RwG.src {α : Type} {enc : α → List Value} {k : Nat} (hk : ∀ x, (enc x).length = k) (h0 : 0 < k) {w : World} {v : Value} {xs : List α} (h : RwG enc k w v xs) : ∃ p c, v = .slice p xs.length c ∧ xs.length ≤ c ∧ c ≤ maxLen ∧ ((p = none ∧ xs.length = 0 ∧ c = 0) ∨ ∃ ad, p = some ad ∧ ∀ j u, (xs.flatMap enc)[j]? = some u → w.cell? (ad.add j) = some u) := by
  obtain ⟨⟨p, c, rfl, h1, h2, h3⟩, hn⟩ := h
  refine ⟨p, c, rfl, h1, h2, ?_⟩
  rcases h3 with ⟨rfl, rfl⟩ | ⟨b, off, rfl, h4, h5⟩
  · exact .inl ⟨rfl, rfl, hn _ rfl⟩
  · refine .inr ⟨_, rfl, fun j u hu => ?_⟩
    have hm := Nat.mod_lt j h0
    have hj : j / k * k + j % k = j := by rw [Nat.mul_comm]; exact Nat.div_add_mod j k
    have h1 := flat_at' hk xs (j / k) (j % k) hm
    rw [hj, hu] at h1
    cases hx : xs[j / k]? with
    | none => rw [hx] at h1; cases h1
    | some x =>
      rw [hx] at h1
      have h6 := h5 (j / k) x hx (j % k) u h1.symm
      rw [Nat.add_assoc, hj] at h6
      rw [Addr.add_lit]
      exact h6
theorem owns_setCell {W : World} {base : Nat} {e : TypeId} {size g n cap : Nat} {xs : List Value} (h : W.ownsRow base e size (.slice (some ⟨g, 0, none⟩) n cap) n xs) (j : Nat) (u : Value) :
    (W.setCell ⟨g, j, none⟩ u).ownsRow base e size (.slice (some ⟨g, 0, none⟩) n cap) n (xs.set j u) := by
  rcases h.2 with ⟨h0, _⟩ | ⟨g', cap', cur, h0, hb, hg, hn, hm, hs, ht⟩
  · cases h0
  · cases h0
    have hh : (W.setCell ⟨g, j, none⟩ u).heap[g]? = some (.cells (cur.setIfInBounds j u) e (0, 0)) := by
      obtain ⟨hlt, hk⟩ := Array.getElem?_eq_some_iff.1 hg
      show (W.heap.modify g _)[g]? = _
      rw [Array.getElem?_eq_getElem (by rw [Array.size_modify]; exact hlt), Array.getElem_modify_self, hk]
      simp
    exact ⟨by simpa using h.1, .inr ⟨g, cap, _, rfl, hb, hh, hn, hm, by simpa using hs, by rw [Array.toList_setIfInBounds, List.take_set, ht]⟩⟩
end Go.Proofs.YtoladolgmeanhaaGreat

/- bits' small functions: counts, low, missing, fitting. -/
namespace Go.Proofs.YtoladolgmeanhaaGreat
open Go.RowKit

theorem counts_yes (n : Int) (w : World) (h0 : 0 ≤ n) (h1 : n ≤ 24) : Calls Tryz.prog 124 #[.int .i64 n] w fun e w' => e = .returned (.bool true) ∧ w' = w := by
  go_enter Tryz.func124, Tryz.ntmps124
  go_wp2
  go_ret
  exact ⟨rfl, rfl⟩
theorem pow_le24 {n : Nat} (hn : n ≤ 24) : 2 ^ n ≤ 16777216 := Nat.pow_le_pow_right (by decide) hn
theorem cast_pow (n : Nat) : ((2 : Int) ^ n) = ((2 ^ n : Nat) : Int) := by simp
theorem low_num (v n : Nat) (hv : v < 4294967296) (hn : n ≤ 24) : bits .and .u32 (v : Int) ((2 ^ n - 1) % 4294967296) = ((v % 2 ^ n : Nat) : Int) := by
  have h2 := pow_le24 hn
  have h3 := pow_pos' n
  have e : ((2 : Int) ^ n - 1) % 4294967296 = 2 ^ n - 1 := by rw [cast_pow]; omega
  rw [e, bits_mask .u32 32 (by decide) (fun m h0 h1 => by rw [IntKind.wrap_u32]; omega) n (by omega) v (by omega) (by omega)]
  simp
theorem low_any (v n : Nat) (w : World) (hv : v < 4294967296) (hn : n ≤ 24) : Calls Tryz.prog 125 #[.int .u32 (v : Int), .int .i64 (n : Int)] w fun e w' => e = .returned (.int .u32 ((v % 2 ^ n : Nat) : Int)) ∧ w' = w := by
  have HL := Lib.hid (low_num v n hv hn)
  go_enter Tryz.func125, Tryz.ntmps125
  go_wp2
  go_ret
  exact ⟨ret_int HL.out, rfl⟩
theorem neg_mask7 (n : Nat) : bits .and .i64 (-(n : Int)) 7 = (((8 - n % 8) % 8 : Nat) : Int) := by
  unfold bits
  simp only [BitVec.toNat_and]
  have e7 : (BitVec.ofInt IntKind.i64.bits 7).toNat = 2 ^ 3 - 1 := by decide
  rw [e7, Nat.and_two_pow_sub_one_eq_mod]
  have e8 : (BitVec.ofInt IntKind.i64.bits (-(n : Int))).toNat = ((-(n : Int)) % 18446744073709551616).toNat := by
    rw [BitVec.toNat_ofInt]; rfl
  rw [e8]
  have e9 : ((-(n : Int)) % 18446744073709551616).toNat % 2 ^ 3 = (8 - n % 8) % 8 := by
    have : (2 : Nat) ^ 3 = 8 := rfl
    rw [this]
    omega
  rw [e9]
  exact IntWalk.i64_in _ (by omega)
theorem missing_any (n : Nat) (w : World) (hn : n ≤ 9223372036854775807) : Calls Tryz.prog 132 #[.int .i64 (n : Int)] w fun e w' => e = .returned (.int .i64 (((8 - n % 8) % 8 : Nat) : Int)) ∧ w' = w := by
  have HL := Lib.hid (neg_mask7 n)
  go_enter Tryz.func132, Tryz.ntmps132
  go_wp2
  go_ret
  exact ⟨ret_int HL.out, rfl⟩
theorem fitting_any (n a : Nat) (w : World) (ha : a ≤ 9223372036854775807) : Calls Tryz.prog 147 #[.int .i64 (n : Int), .int .i64 (a : Int)] w fun e w' => e = .returned (.int .i64 ((min n (8 - a % 8) : Nat) : Int)) ∧ w' = w := by
  go_enter Tryz.func147, Tryz.ntmps147
  go_wp2
  all_goals
    go_ret
    exact ⟨ret_int (by omega), rfl⟩
end Go.Proofs.YtoladolgmeanhaaGreat

/- bits' writer: lay, cut, add. -/
namespace Go.Proofs.YtoladolgmeanhaaGreat
open Go.RowKit

def u8v (b : Nat) : Value := .int .u8 (b : Int)
theorem u8_info : (Tryz.prog.info? 5).map (fun i => (i.zero, i.size, i.bytes)) = some (some (.int .u8 0), 1, 1) := by kernel_rfl
structure Wr (W : World) (base B : Nat) (sv : Value) (N n : Nat) : Prop where
  lt : B < base
  box : ∃ t, W.heap[B]? = some (.cells #[sv, .int .i64 (n : Int)] t)
  own : W.ownsRow base 5 1 sv ((n + 7) / 8) ((byts N ((n + 7) / 8)).map u8v)
  num : N < 2 ^ n
theorem Wr.c0 {W : World} {base B N n : Nat} {sv : Value} (h : Wr W base B sv N n) : W.cell? ⟨B, 0, none⟩ = some sv := by obtain ⟨_, hb⟩ := h.box; simp [World.cell?, hb]
theorem Wr.c1 {W : World} {base B N n : Nat} {sv : Value} (h : Wr W base B sv N n) : W.cell? ⟨B, 1, none⟩ = some (.int .i64 (n : Int)) := by obtain ⟨_, hb⟩ := h.box; simp [World.cell?, hb]
theorem Wr.free {W : World} {base B N n : Nat} {sv : Value} (h : Wr W base B sv N n) (i : Nat) : W.frozen? ⟨B, i, none⟩ = false := by obtain ⟨_, hb⟩ := h.box; simp [World.frozen?, hb]
theorem Wr.size {W : World} {base B N n : Nat} {sv : Value} (h : Wr W base B sv N n) : B < W.heap.size := by obtain ⟨_, hb⟩ := h.box; exact (Array.getElem?_eq_some_iff.1 hb).1
theorem Wr.turns {T : Nat → Prop} {W W' : World} {base B N n : Nat} {sv : Value} (h : Wr W base B sv N n) (ht : Turns T W W') (hB : ¬ T B) (hs : ∀ k, sv.ownBlock = some k → ¬ T k) : Wr W' base B sv N n :=
  ⟨h.lt, h.box.imp fun _ hb => (ht.block B h.size hB).trans hb, ht.owns h.own hs, h.num⟩
theorem Wr.below {W W' : World} {base B N n : Nat} {sv : Value} (h : Wr W base B sv N n) (hb : Below W.heap.size W W') : Wr W' base B sv N n :=
  h.turns (T := fun _ => False) (Turns.of_below' hb) (fun h => h) (fun _ _ h => h)
theorem Wr.apart {W : World} {base B N n : Nat} {sv : Value} (h : Wr W base B sv N n) : sv.ownBlock ≠ some B := fun e => by
  have h1 := h.own.lt B e
  have h2 := h.lt
  omega
def WrTo (base B : Nat) (sv : Value) (N n : Nat) (w w' : World) : Prop :=
  ∃ sv', Wr w' base B sv' N n ∧ Turns (fun b => b = B ∨ sv.ownBlock = some b) w w' ∧ ∀ k, sv'.ownBlock = some k → sv.ownBlock = some k ∨ w.heap.size ≤ k
theorem WrTo.refl {w : World} {base B N n : Nat} {sv : Value} (h : Wr w base B sv N n) : WrTo base B sv N n w w := ⟨sv, h, Turns.refl _ _, fun _ h => .inl h⟩
theorem WrTo.step {w w1 w2 : World} {base B M m : Nat} {sv sv1 : Value} (h2 : Turns (fun b => b = B ∨ sv.ownBlock = some b) w w1) (h3 : ∀ k, sv1.ownBlock = some k → sv.ownBlock = some k ∨ w.heap.size ≤ k) (k : WrTo base B sv1 M m w1 w2) : WrTo base B sv M m w w2 := by
  obtain ⟨sv2, k1, k2, k3⟩ := k
  refine ⟨sv2, k1, h2.trans' k2 (fun i hi h => ?_), fun q hq => ?_⟩
  · rcases h with h | h
    · exact .inl h
    · rcases h3 i h with h | h
      · exact .inr h
      · omega
  · rcases k3 q hq with h | h
    · rcases h3 q h with h | h
      · exact .inl h
      · exact .inr h
    · exact .inr (Nat.le_trans h2.size h)
theorem or_lay (x p f s : Nat) (hx : x < 2 ^ f) (hp : p < 2 ^ s) (hfit : f + s ≤ 8) : bits .or .u8 (x : Int) ((p : Int) * 2 ^ f) = ((x + p * 2 ^ f : Nat) : Int) ∧ p * 2 ^ f < 256 := by
  have h6 : 2 ^ f * 2 ^ s ≤ 2 ^ 8 := by rw [← Nat.pow_add]; exact Nat.pow_le_pow_right (by decide) hfit
  have h7 : p * 2 ^ f + 2 ^ f ≤ 2 ^ f * 2 ^ s := by
    have : (p + 1) * 2 ^ f ≤ 2 ^ s * 2 ^ f := Nat.mul_le_mul_right _ hp
    rw [Nat.mul_comm (2 ^ f) (2 ^ s)]
    rw [Nat.add_mul] at this
    omega
  have h8 : (2 : Nat) ^ 8 = 256 := rfl
  have e : ((p : Int) * 2 ^ f) = ((p * 2 ^ f : Nat) : Int) := by simp
  rw [e, (bits_nat .u8 8 (by decide) (fun m h0 h1 => by rw [IntKind.wrap_u8]; omega) x (p * 2 ^ f) (by omega) (by omega)).2]
  refine ⟨?_, by omega⟩
  rw [Nat.or_comm, Nat.mul_comm p, ← Nat.two_pow_add_eq_or_of_lt hx p]
  congr 1
  omega
set_option maxRecDepth 100000 in
set_option maxHeartbeats 2000000 in
theorem lay_any (base B N n p s : Nat) (sv : Value) (w : World) (h : Wr w base B sv N n) (hp : p < 2 ^ s) (hs : 0 < s) (hfit : n % 8 + s ≤ 8) (hmax : n + s ≤ 8388608) (hbase : base ≤ w.heap.size) :
    Calls Tryz.prog 146 #[.pointer (some ⟨B, 0, none⟩), .int .u8 (p : Int), .int .i64 (s : Int)] w fun e w' => e = .returned (.tuple #[]) ∧ WrTo base B sv (N + p * 2 ^ n) (n + s) w w' := by
  obtain ⟨hm, hby, hlo, hnum, h256⟩ := byts_lay N n p s h.num hp hs hfit
  obtain ⟨q, hq⟩ : ∃ q, n / 8 = q := ⟨_, rfl⟩
  obtain ⟨f, hf⟩ : ∃ f, n % 8 = f := ⟨_, rfl⟩
  rw [hq] at hm hby hlo h256
  rw [hf] at hby hlo h256 hfit
  obtain ⟨x, hx⟩ : ∃ x, N / 256 ^ q = x := ⟨_, rfl⟩
  rw [hx] at hby hlo h256
  obtain ⟨hor, hp256⟩ := or_lay x p f s hlo hp hfit
  obtain ⟨y, hy⟩ : ∃ y, x + p * 2 ^ f = y := ⟨_, rfl⟩
  rw [hy] at hor hby h256
  have hpm : ((p : Int) * 2 ^ f) % 256 = (p : Int) * 2 ^ f := by
    have e : ((p : Int) * 2 ^ f) = ((p * 2 ^ f : Nat) : Int) := by simp
    rw [e]; omega
  have Hor := Lib.hid (And.intro hor hpm)
  clear hpm hp256 hy
  have hc0 := h.c0
  have hc1 := h.c1
  have hf0 := h.free 0
  obtain ⟨sp, sc, rfl⟩ := owns_slice h.own
  have hf7 : f < 8 := by omega
  have hn8 : n = 8 * q + f := by omega
  have hqb : q ≤ 1048576 := by omega
  have hnf : (n : Int) % 8 = (f : Int) := by omega
  have Hn := Lib.hid (And.intro hm (And.intro hby (And.intro hnum (And.intro h256 hx))))
  clear hm hby hnum h256 hq hf hor hx
  by_cases h0 : f = 0
  · have hz : ((f : Int) == 0) = true := by simp [h0]
    have hx0 : x = 0 := by rw [h0] at hlo; simpa using hlo
    have Hx0 := Lib.hid hx0
    have Hn8 := Lib.hid hn8
    have hl : (n + 7) / 8 = q := by omega
    have H := Lib.hid h
    rw [hl] at hc0
    have Hl := Lib.hid hl
    clear h hfit hl h0 hx0 hn8
    go_enter Tryz.func146, Tryz.ntmps146
    go_wp2_with (at_builtin; refine wpList_append_one w rfl (.tmp 18) (.tmp 19) 25 rfl base 5 _ 1 u8_info Tryz.underlying25 rfl (.slice sp q sc) q ((byts N q).map u8v) rfl (by have := H.out.own; rw [Hl.out] at this; exact this) (.int .u8 0) _ rfl rfl ?n3 ?n4 hbase ?_)
    case n3 => simp only [maxLen]; omega
    case n4 => omega
    intro g cap w1 ho1 ht1 hg1
    have hgB : g ≠ B := fun e => by
      have h1 := (ho1.lt g rfl).1
      have h2 := H.out.lt
      omega
    obtain ⟨tyW, hbx⟩ := H.out.box
    have hap := H.out.apart
    rw [Hl.out] at hbx hap
    have hb1 := (ht1.block B H.out.size hap).trans hbx
    clear hbx hap
    have d0 : w1.cell? ⟨B, 0, none⟩ = some (.slice sp q sc) := by simp [World.cell?, hb1]
    have e0 : w1.frozen? ⟨B, 0, none⟩ = false := by simp [World.frozen?, hb1]
    have hb2 := two_set0 (.slice (some ⟨g, 0, none⟩) (q + 1) cap) hb1
    have ho2 := (Turns.set (T := fun b => b = B) (Turns.refl _ w1) (p := ⟨B, 0, none⟩) rfl (.slice (some ⟨g, 0, none⟩) (q + 1) cap)).owns ho1 (fun k hk h => hgB (by cases hk; exact h))
    have ht2 : Turns (fun b => b = B ∨ (Value.slice sp q sc).ownBlock = some b) w (w1.setCell ⟨B, 0, none⟩ (.slice (some ⟨g, 0, none⟩) (q + 1) cap)) := (ht1.mono (fun _ _ h => .inr h)).set (p := ⟨B, 0, none⟩) (.inl rfl) _
    have Hg := Lib.hid hg1
    have HgB := Lib.hid hgB
    have Hb := Lib.hid hb2
    have Ho := Lib.hid ho2
    have Ht := Lib.hid ht2
    clear hb1 hb2 ho1 ho2 ht1 ht2 hg1 hgB
    go_upto_region 3 with (fail)
    obtain ⟨W3, hW3⟩ : ∃ W3, w1.setCell ⟨B, 0, none⟩ (.slice (some ⟨g, 0, none⟩) (q + 1) cap) = W3 := ⟨_, rfl⟩
    rw [hW3] at Hb Ho Ht ⊢
    clear hW3 d0 e0 hc0 hc1 hf0
    rw [show ([Value.int IntKind.u8 0]) = [.int .u8 (x : Int)] by rw [Hx0.out]; rfl] at Ho
    have hq := After.ne W3
    have hc0 : W3.cell? ⟨B, 0, none⟩ = some (.slice (some ⟨g, 0, none⟩) (q + 1) cap) := by simp [World.cell?, Hb.out]
    have hc1 : W3.cell? ⟨B, 1, none⟩ = some (.int .i64 (n : Int)) := by simp [World.cell?, Hb.out]
    have hcx : W3.cell? ⟨g, q, none⟩ = some (.int .u8 (x : Int)) := by
      rw [Ho.out.cellAt q (by omega)]
      rw [List.getElem?_append_right (by simp [byts_len])]
      simp [byts_len]
    have e0 := After.rule hc0
    have e1 := After.rule hc1
    have e2 := After.rule hcx
    have hwq : IntKind.i64.wrap (q : Int) = (q : Int) := IntWalk.i64_in _ (by omega)
    have hq0 : (0 : Int) ≤ (q : Int) := by omega
    have hq1 : (q : Int) < (q : Int) + 1 := by omega
    have hor := Hor.out.1
    have hpm := Hor.out.2
    refine wp_region_head 16 (by kernel_rfl) (by kernel_rfl) (by kernel_rfl) ?_
    repeat (refine Lq_step (fun K hK => ?_); go_simp; (refine hK _ ?_; clear hK K))
    refine Lq_nil ?_
    intro w4 hb4
    clear e0 e1 e2 hq
    have f4 : w4.frozen? ⟨g, q, none⟩ = false := free_later hb4 hcx (Ho.out.frozenAt q)
    have hcx' := cell_later hb4 hcx
    have hbx := (hb4.block B (Array.getElem?_eq_some_iff.1 Hb.out).1).trans Hb.out
    have ho4 := (Turns.of_below' (T := fun _ => False) hb4).owns Ho.out (fun _ _ h => h)
    have hbo := ho4.stored q (.int .u8 (y : Int))
    have ht5 : Turns (fun b => b = B ∨ (Value.slice sp q sc).ownBlock = some b) w (w4.setCell ⟨g, q, none⟩ (.int .u8 (y : Int))) := (Ht.out.trans (Turns.of_below' hb4)).trans' (Turns.of_grown hbo.2 (T := fun b => b = g) (fun i h => by cases h; rfl)) (fun i hi h => by
      subst h
      rcases Hg.out with h | h
      · exact .inr h
      · omega)
    have hb5 : (w4.setCell ⟨g, q, none⟩ (.int .u8 (y : Int))).heap[B]? = some (.cells #[.slice (some ⟨g, 0, none⟩) (q + 1) cap, .int .i64 (n : Int)] tyW) := (Below.heap_setCell _ _ _ B (fun h => HgB.out h.symm)).trans hbx
    have Ht5 := Lib.hid ht5
    have Hb5 := Lib.hid hb5
    have Ho5 := Lib.hid hbo.1
    clear hc0 hc1 hcx hb4 hbx ho4 hbo ht5 hb5
    go_upto_region 4 with (fail)
    obtain ⟨W5, hW5⟩ : ∃ W5, w4.setCell ⟨g, q, none⟩ (.int .u8 (y : Int)) = W5 := ⟨_, rfl⟩
    rw [hW5] at Ht5 Hb5 Ho5 ⊢
    clear hW5 f4 hcx'
    have c5 : W5.cell? ⟨B, 1, none⟩ = some (.int .i64 (n : Int)) := by simp [World.cell?, Hb5.out]
    have f5 : W5.frozen? ⟨B, 1, none⟩ = false := by simp [World.frozen?, Hb5.out]
    have Hb6 := Lib.hid (two_set1 (.int .i64 ((n : Int) + (s : Int))) Hb5.out)
    have Ho6 := Lib.hid ((Turns.set (T := fun b => b = B) (Turns.refl _ W5) (p := ⟨B, 1, none⟩) rfl (.int .i64 ((n : Int) + (s : Int)))).owns Ho5.out (fun k hk h => HgB.out (by cases hk; exact h)))
    have Ht6 := Lib.hid (Ht5.out.set (p := ⟨B, 1, none⟩) (.inl rfl) (.int .i64 ((n : Int) + (s : Int))))
    go_wp2
    go_end0
    obtain ⟨k1, k2, k3, k4, k5⟩ := Hn.out
    refine ⟨rfl, .slice (some ⟨g, 0, none⟩) (q + 1) cap, ⟨H.out.lt, ?_, ?_, k3⟩, ?_, ?_⟩
    · exact ⟨tyW, by rw [Hb6.out, Int.natCast_add]⟩
    · rw [k1, k2]
      have h6 := Ho6.out
      rw [List.set_append_right _ _ (by simp [byts_len])] at h6
      simpa [byts_len, u8v] using h6
    · rw [Hl.out]; exact Ht6.out
    · intro k hk
      cases hk
      rw [Hl.out]; exact Hg.out
  · have hz : ((f : Int) == 0) = false := by simp; omega
    have hl : (n + 7) / 8 = q + 1 := by omega
    have hx := Hn.out.2.2.2.2
    have hx256 : x % 256 = x := by
      have : 2 ^ f ≤ 2 ^ 7 := Nat.pow_le_pow_right (by decide) (by omega)
      have h7 : (2 : Nat) ^ 7 = 128 := rfl
      omega
    obtain ⟨tyW, hbx⟩ := h.box
    have hox := h.own
    rw [hl] at hbx hox
    rw [byts_snoc, hx, hx256, List.map_append, show List.map u8v [x] = [.int .u8 (x : Int)] from rfl] at hox
    obtain ⟨g, hsv, hbg, hglt⟩ : ∃ g, sp = some ⟨g, 0, none⟩ ∧ base ≤ g ∧ g < w.heap.size := by
      rcases hox.2 with ⟨-, h0⟩ | ⟨g, cap, cur, hsv, hbg, hg, -⟩
      · omega
      · cases hsv
        exact ⟨g, rfl, hbg, (Array.getElem?_eq_some_iff.1 hg).1⟩
    subst hsv
    rw [hl] at hc0
    have Ho : Hid _ := Lib.hid hox
    have Hb := Lib.hid hbx
    have H := Lib.hid h
    have Hl := Lib.hid hl
    have hlt := h.lt
    have HgB := Lib.hid (show g ≠ B by omega)
    have Hg := Lib.hid (show (Value.slice (some ⟨g, 0, none⟩) (q + 1) sc).ownBlock = some g ∨ w.heap.size ≤ g from .inl rfl)
    have Ht := Lib.hid (Turns.refl (fun b => b = B ∨ (Value.slice (some ⟨g, 0, none⟩) (q + 1) sc).ownBlock = some b) w)
    have Hn8 := Lib.hid hn8
    clear h hfit hl h0 hn8 hx hx256 hbx hox hbg hglt hlt
    go_enter Tryz.func146, Tryz.ntmps146
    go_upto_region 3 with (fail)
    clear hc0 hc1 hf0
    have hq := After.ne w
    have hc0 : w.cell? ⟨B, 0, none⟩ = some (.slice (some ⟨g, 0, none⟩) (q + 1) sc) := by simp [World.cell?, Hb.out]
    have hc1 : w.cell? ⟨B, 1, none⟩ = some (.int .i64 (n : Int)) := by simp [World.cell?, Hb.out]
    have hcx : w.cell? ⟨g, q, none⟩ = some (.int .u8 (x : Int)) := by
      rw [Ho.out.cellAt q (by omega)]
      rw [List.getElem?_append_right (by simp [byts_len])]
      simp [byts_len]
    have e0 := After.rule hc0
    have e1 := After.rule hc1
    have e2 := After.rule hcx
    have hwq : IntKind.i64.wrap (q : Int) = (q : Int) := IntWalk.i64_in _ (by omega)
    have hq0 : (0 : Int) ≤ (q : Int) := by omega
    have hq1 : (q : Int) < (q : Int) + 1 := by omega
    have hor := Hor.out.1
    have hpm := Hor.out.2
    refine wp_region_head 16 (by kernel_rfl) (by kernel_rfl) (by kernel_rfl) ?_
    repeat (refine Lq_step (fun K hK => ?_); go_simp; (refine hK _ ?_; clear hK K))
    refine Lq_nil ?_
    intro w4 hb4
    clear e0 e1 e2 hq
    have f4 : w4.frozen? ⟨g, q, none⟩ = false := free_later hb4 hcx (Ho.out.frozenAt q)
    have hcx' := cell_later hb4 hcx
    have hbx := (hb4.block B (Array.getElem?_eq_some_iff.1 Hb.out).1).trans Hb.out
    have ho4 := (Turns.of_below' (T := fun _ => False) hb4).owns Ho.out (fun _ _ h => h)
    have hbo := ho4.stored q (.int .u8 (y : Int))
    have ht5 : Turns (fun b => b = B ∨ (Value.slice (some ⟨g, 0, none⟩) (q + 1) sc).ownBlock = some b) w (w4.setCell ⟨g, q, none⟩ (.int .u8 (y : Int))) := (Ht.out.trans (Turns.of_below' hb4)).trans' (Turns.of_grown hbo.2 (T := fun b => b = g) (fun i h => by cases h; rfl)) (fun i hi h => by
      subst h
      rcases Hg.out with h | h
      · exact .inr h
      · omega)
    have hb5 : (w4.setCell ⟨g, q, none⟩ (.int .u8 (y : Int))).heap[B]? = some (.cells #[.slice (some ⟨g, 0, none⟩) (q + 1) sc, .int .i64 (n : Int)] tyW) := (Below.heap_setCell _ _ _ B (fun h => HgB.out h.symm)).trans hbx
    have Ht5 := Lib.hid ht5
    have Hb5 := Lib.hid hb5
    have Ho5 := Lib.hid hbo.1
    clear hc0 hc1 hcx hb4 hbx ho4 hbo ht5 hb5
    go_upto_region 4 with (fail)
    obtain ⟨W5, hW5⟩ : ∃ W5, w4.setCell ⟨g, q, none⟩ (.int .u8 (y : Int)) = W5 := ⟨_, rfl⟩
    rw [hW5] at Ht5 Hb5 Ho5 ⊢
    clear hW5 f4 hcx'
    have c5 : W5.cell? ⟨B, 1, none⟩ = some (.int .i64 (n : Int)) := by simp [World.cell?, Hb5.out]
    have f5 : W5.frozen? ⟨B, 1, none⟩ = false := by simp [World.frozen?, Hb5.out]
    have Hb6 := Lib.hid (two_set1 (.int .i64 ((n : Int) + (s : Int))) Hb5.out)
    have Ho6 := Lib.hid ((Turns.set (T := fun b => b = B) (Turns.refl _ W5) (p := ⟨B, 1, none⟩) rfl (.int .i64 ((n : Int) + (s : Int)))).owns Ho5.out (fun k hk h => HgB.out (by cases hk; exact h)))
    have Ht6 := Lib.hid (Ht5.out.set (p := ⟨B, 1, none⟩) (.inl rfl) (.int .i64 ((n : Int) + (s : Int))))
    go_wp2
    go_end0
    obtain ⟨k1, k2, k3, k4, k5⟩ := Hn.out
    refine ⟨rfl, .slice (some ⟨g, 0, none⟩) (q + 1) sc, ⟨H.out.lt, ?_, ?_, k3⟩, ?_, ?_⟩
    · exact ⟨tyW, by rw [Hb6.out, Int.natCast_add]⟩
    · rw [k1, k2]
      have h6 := Ho6.out
      rw [List.set_append_right _ _ (by simp [byts_len])] at h6
      simpa [byts_len, u8v] using h6
    · rw [Hl.out]; exact Ht6.out
    · intro k hk
      cases hk
      rw [Hl.out]; exact Hg.out
set_option maxRecDepth 100000 in
set_option maxHeartbeats 2000000 in
theorem cut_any (base B N n v k : Nat) (sv : Value) (w : World) (h : Wr w base B sv N n) (hv : v < 2 ^ k) (hk : k ≤ 24) (hmax : n + k ≤ 8388608) (hbase : base ≤ w.heap.size) :
    Calls Tryz.prog 145 #[.int .u32 (v : Int), .int .i64 (k : Int), .int .i64 (n : Int), .func (.func 146) #[.pointer (some ⟨B, 0, none⟩)] #[]] w fun e w' => e = .returned (.tuple #[]) ∧ WrTo base B sv (N + v * 2 ^ n) (n + k) w w' := by
  have H := Lib.hid h
  clear h
  go_enter Tryz.func145, Tryz.ntmps145
  go_wp2
  go_loopw [0, 1, 2] (fun a b c wr => ∃ (v1 k1 n1 N1 : Nat), a = .int .u32 (v1 : Int) ∧ b = .int .i64 (k1 : Int) ∧ c = .int .i64 (n1 : Int) ∧ v1 < 2 ^ k1 ∧ k1 ≤ 24 ∧ n1 + k1 ≤ 8388608 ∧ Hid (n1 + k1 = n + k) ∧ Hid (N1 + v1 * 2 ^ n1 = N + v * 2 ^ n) ∧ Hid (WrTo base B sv N1 n1 w wr)) (fun _ b _ _ => (intOf b).toNat)
  case atStart => exact ⟨v, k, n, N, rfl, rfl, rfl, hv, hk, hmax, Lib.hid rfl, Lib.hid rfl, Lib.hid (WrTo.refl H.out)⟩
  case round =>
    obtain ⟨v1, k1, n1, N1, rfl, rfl, rfl, hv1, hk1, hm1, Hnk, Hnum, Hto⟩ := hrel
    by_cases h0 : 0 < k1
    · obtain ⟨z, hz⟩ : ∃ z, min k1 (8 - n1 % 8) = z := ⟨_, rfl⟩
      have hz0 : 0 < z := by omega
      have hzk : z ≤ k1 := by omega
      have hz8 : n1 % 8 + z ≤ 8 := by omega
      have Hz := Lib.hid hz
      have hv32 : v1 < 4294967296 := by have := pow_le24 hk1; omega
      obtain ⟨p, hp⟩ : ∃ p, v1 % 2 ^ z = p := ⟨_, rfl⟩
      obtain ⟨u, hu⟩ : ∃ u, v1 / 2 ^ z = u := ⟨_, rfl⟩
      have hpz : p < 2 ^ z := by rw [← hp]; exact Nat.mod_lt _ (pow_pos' z)
      have hp256 : p < 256 := by
        have : 2 ^ z ≤ 2 ^ 8 := Nat.pow_le_pow_right (by decide) (by omega)
        have h8 : (2 : Nat) ^ 8 = 256 := rfl
        omega
      have huk : u < 2 ^ (k1 - z) := by
        rw [← hu]
        refine Nat.div_lt_of_lt_mul ?_
        rw [← Nat.pow_add, show z + (k1 - z) = k1 by omega]
        exact hv1
      have Hu : Hid (((v1 : Int) / 2 ^ z) = (u : Int)) := Lib.hid (by rw [← hu]; simp)
      have Hpu := Lib.hid (show p + 2 ^ z * u = v1 by rw [← hp, ← hu]; exact Nat.mod_add_div _ _)
      have Hp := Lib.hid hp
      clear hz hp hu
      go_wp2_with fail
      refine Calls.mono (fitting_any k1 n1 _ (by omega)) ?_
      rintro e w1 ⟨rfl, rfl⟩
      rw [Hz.out]
      go_wp2_with fail
      refine Calls.mono (low_any v1 z _ hv32 (by omega)) ?_
      rintro e w1 ⟨rfl, rfl⟩
      rw [Hp.out]
      go_wp2_with fail
      obtain ⟨sv1, hw1, ht1, hl1⟩ := Hto.out
      have hb1 := Nat.le_trans hbase ht1.size
      refine Calls.mono (lay_any base B N1 n1 p z sv1 w1 hw1 hpz hz0 hz8 (by omega) hb1) ?_
      rintro e w2 ⟨rfl, hto2⟩
      have Hto2 := Lib.hid (WrTo.step ht1 hl1 hto2)
      have hu := Hu.out
      clear hw1 ht1 hl1 hto2 Hto hb1
      go_wp2
      go_roundw
      case rel => exact ⟨u, k1 - z, n1 + z, N1 + p * 2 ^ n1, rfl, by go_num, by go_num, huk, by omega, by omega, Lib.hid (by have := Hnk.out; omega), Lib.hid (by
          rw [← Hnum.out, ← Hpu.out, Nat.pow_add, Nat.add_mul, Nat.mul_comm (2 ^ z) u, Nat.mul_comm (2 ^ n1) (2 ^ z), Nat.mul_assoc, Nat.add_assoc]), Hto2⟩
      case measure => simp [intOf]; omega
    · obtain rfl : k1 = 0 := by omega
      have hv0 : v1 = 0 := by simpa using hv1
      subst hv0
      go_wp2
      go_end0
      refine ⟨rfl, ?_⟩
      have e1 := Hnk.out
      have e2 := Hnum.out
      rw [Nat.zero_mul, Nat.add_zero] at e2
      rw [← e2, ← e1]
      exact Hto.out
set_option maxHeartbeats 1000000 in
theorem add_any (base B N n v k : Nat) (sv : Value) (w : World) (h : Wr w base B sv N n) (hv : v < 2 ^ k) (hk : k ≤ 24) (hmax : n + k ≤ 8388608) (hbase : base ≤ w.heap.size) :
    Calls Tryz.prog 126 #[.pointer (some ⟨B, 0, none⟩), .int .u32 (v : Int), .int .i64 (k : Int)] w fun e w' => e = .returned (.tuple #[]) ∧ WrTo base B sv (N + v * 2 ^ n) (n + k) w w' := by
  have hmf : ∀ (fn : Fn) (first cap : Array Value) (w : World), (Instr.makeFunc fn first cap).run Tryz.prog w = .ok (.func fn first cap) w := fun _ _ _ _ => rfl
  have hc1 := h.c1
  have H := Lib.hid h
  clear h
  go_enter Tryz.func126, Tryz.ntmps126
  go_wp2_with fail
  refine Calls.mono (cut_any base B N n v k sv w H.out hv hk hmax hbase) ?_
  rintro e w1 ⟨rfl, hto⟩
  have Hto := Lib.hid hto
  clear hto
  go_wp2
  go_end0
  exact ⟨rfl, Hto.out⟩
end Go.Proofs.YtoladolgmeanhaaGreat
