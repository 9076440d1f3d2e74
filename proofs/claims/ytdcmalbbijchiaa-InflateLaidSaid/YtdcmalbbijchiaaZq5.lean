/- Several texts in one, each with its own head. -/
import Derived.Test.YtdcmalbbijchiaaZq4
import Derived.OwnWalkIn
import Derived.Maps.AppendAt
import Derived.Deep.DeepCutAuto
import Derived.Sort.CutIn
/- append: where the new slice lies, and a source that may be nil. Nothing here speaks of one program. -/
namespace Go.Proofs.Ytdcmalbbijchiaa
open Go.RowKit

section
variable {P : Program} (w : World)

/-- append: the answer owns the longer row; it lies where the old one lay, or in a new block. -/
theorem run_append_mine (base : Nat) (t ty e : TypeId) (i : TypeInfo) (z : Value) (size bytes : Nat) (ht : P.underlying t = some (.slice e)) (hi : P.info? e = some i) (hz : i.zero = some z)
    (hsize : i.size = size) (hby : i.bytes = bytes) (hzs : z.cells.size = size) (hsz : 0 < size)
    (v : Value) (n : Nat) (xs : List Value) (hown : w.ownsRow base e size v n xs)
    (p : Option Addr) (m c : Nat) (news : List Value) (hl : news.length = m * size) (hnews : (p = none ∧ m = 0 ∧ c = 0) ∨ ∃ a, p = some a ∧ ∀ j u, news[j]? = some u → w.cell? (a.add j) = some u) (h1 : ∀ u ∈ news, u.oneCell' = true)
    (h63 : n + m ≤ maxLen) (hbytes : (n + m) * bytes ≤ 140737488355328) (hbase : base ≤ w.heap.size) :
    ∃ v' w', (Builtin.append_ #[t, t] ty #[v, .slice p m c]).run P w = .ok v' w' ∧ w'.ownsRow base e size v' (n + m) (xs ++ news) ∧ w.grownBy w' v.ownBlock ∧ (∀ k, v'.ownBlock = some k → v.ownBlock = some k ∨ w.heap.size ≤ k) := by
  rcases hnews with ⟨rfl, rfl, rfl⟩ | ⟨a, rfl, hnews⟩
  · have hn : news = [] := List.eq_nil_of_length_eq_zero (by simpa using hl)
    subst hn
    refine ⟨v, w, ?_, by simpa using hown, ⟨rfl, rfl, rfl, Nat.le_refl _, fun _ _ _ => rfl⟩, fun k hk => .inl hk⟩
    rcases hown.2 with ⟨rfl, rfl⟩ | ⟨g, cap, cur, rfl, hbg, hg, hnc, hcm, hcs, htake⟩
    · simp [Builtin.append_, run_underlying ht, sizeOf, typeInfo, hi, Builtin.lenOf, Builtin.firstCells]
    · simp [Builtin.append_, run_underlying ht, sizeOf, typeInfo, hi, Builtin.lenOf, Builtin.firstCells, hnc, storeCells]
  · obtain ⟨v', w', hr, h2, h3, h4⟩ := run_append_own (P := P) w base t ty e i z size bytes ht hi hz hsize hby hzs hsz v n xs hown a m c news hl hnews h1 h63 hbytes hbase
    refine ⟨v', w', hr, h2, h3, ?_⟩
    rcases hown.2 with ⟨rfl, rfl⟩ | ⟨g, cap, cur, rfl, hbg, hg, hnc, hcm, hcs, htake⟩
    · obtain ⟨v2, w2, hr2, k2, _, _⟩ := run_append_own (P := P) w w.heap.size t ty e i z size bytes ht hi hz hsize hby hzs hsz _ 0 [] (World.ownsRow_nil w _ e size) a m c news hl hnews h1 h63 hbytes (Nat.le_refl _)
      rw [hr] at hr2
      cases hr2
      exact fun k hk => .inr (k2.lt k hk).1
    · subst hsize
      subst hby
      by_cases hroom : n + m ≤ cap
      · have hfit : n * i.size + news.length ≤ cur.size := by rw [hl, hcs, ← Nat.add_mul]; exact Nat.mul_le_mul_right _ hroom
        have hr2 := run_append_room (P := P) w t ty e i ht hi g n cap cur hg a m c news hl hnews h1 hroom hfit
        rw [hr] at hr2
        cases hr2
        exact fun k hk => .inl hk
      · have holds : ∀ j u, xs[j]? = some u → w.cell? ((⟨g, 0, none⟩ : Addr).add j) = some u := hown.cells (g := g) rfl
        have hr2 := run_append_grow (P := P) w t ty e i z ht hi hz ⟨g, 0, none⟩ n cap xs hown.1 holds a m c news hl hnews (by omega) (by simp only [maxLen] at h63; omega) (growslice_fits (by omega) hbytes)
        rw [hr] at hr2
        cases hr2
        exact fun k hk => .inr (by cases hk; exact Nat.le_refl _)
end

theorem wpList_append_mine {P : Program} (w : World) {ops : Array Oper} {rest : List Oper} {o : Oper} {a : Act} {Q : Exit → Act → World → Prop} (hgd : o.guard = none) (s x : Operand) (t : TypeId)
    (ho : o.op = .call { callee := .builtin .append, args := #[s, x], argTypes := #[t, t] })
    (base : Nat) (e : TypeId) (i : TypeInfo) (z : Value) (size bytes : Nat) (ht : P.underlying t = some (.slice e)) (hi : P.info? e = some i) (hz : i.zero = some z)
    (hsize : i.size = size) (hby : i.bytes = bytes) (hzs : z.cells.size = size) (hsz : 0 < size)
    (v : Value) (n : Nat) (xs : List Value) (hs : a.eval s = v) (hown : w.ownsRow base e size v n xs)
    (p : Option Addr) (m c : Nat) (news : List Value) (hx : a.eval x = .slice p m c) (hl : news.length = m * size) (hnews : (p = none ∧ m = 0 ∧ c = 0) ∨ ∃ ad, p = some ad ∧ ∀ j u, news[j]? = some u → w.cell? (ad.add j) = some u) (h1 : ∀ u ∈ news, u.oneCell' = true)
    (h63 : n + m ≤ maxLen) (hbytes : (n + m) * bytes ≤ 140737488355328) (hbase : base ≤ w.heap.size)
    (h : ∀ v' w', w'.ownsRow base e size v' (n + m) (xs ++ news) → w.grownBy w' v.ownBlock → (∀ k, v'.ownBlock = some k → v.ownBlock = some k ∨ w.heap.size ≤ k) → wpList P ops Q rest (a.put o.dst v') w') : wpList P ops Q (o :: rest) a w :=
  wpList_plain hgd fun _ hK => by
    obtain ⟨v', w', hr, h2, h3, h4⟩ := run_append_mine (P := P) w base t o.type e i z size bytes ht hi hz hsize hby hzs hsz v n xs hown p m c news hl hnews h1 h63 hbytes hbase
    unfold Oper.wp execOp
    simp only [ho, resolve, invoke, builtin, Sem.run_bind, Sem.run_pure, Result.andThen_ok, List.map_toArray, List.map_cons, List.map_nil, hs, hx, hr]
    exact hK _ _ (h v' w' h2 h3 h4)

theorem wpListIn_append_mine {F : Fence} {n : Nat} {P : Program} (w : World) {ops : Array Oper} {rest : List Oper} {o : Oper} {a : Act} {Q : Exit → Act → World → Prop}
    (hg : o.guard = none) (s x : Operand) (t : TypeId) (hop : o.op = Op.call { callee := Callee.builtin Builtin.append, args := #[s, x], argTypes := #[t, t] })
    (base : Nat) (e : TypeId) (i : TypeInfo) (z : Value) (size bytes : Nat) (h1 : P.underlying t = some (.slice e)) (h2 : P.info? e = some i) (h3 : i.zero = some z) (h4 : i.size = size) (h5 : i.bytes = bytes) (h6 : z.cells.size = size) (h7 : 0 < size)
    (v : Value) (k : Nat) (xs : List Value) (hs : a.eval s = v) (hown : w.ownsRow base e size v k xs) (p : Option Addr) (m c : Nat) (news : List Value) (hx : a.eval x = .slice p m c) (hn : news.length = m * size)
    (hc : (p = none ∧ m = 0 ∧ c = 0) ∨ ∃ ad, p = some ad ∧ ∀ j u, news[j]? = some u → w.cell? (ad.add j) = some u) (h1c : ∀ u ∈ news, u.oneCell' = true) (b1 : k + m ≤ maxLen) (b2 : (k + m) * bytes ≤ 140737488355328) (b3 : base ≤ w.heap.size)
    (hK : ∀ v' w', w'.ownsRow base e size v' (k + m) (xs ++ news) → w.grownBy w' v.ownBlock → (∀ k, v'.ownBlock = some k → v.ownBlock = some k ∨ w.heap.size ≤ k) → wpListIn F n P ops Q rest (a.put o.dst v') w') :
    wpListIn F n P ops Q (o :: rest) a w := by
  refine wpListIn_plain hg fun K hK' => ?_
  obtain ⟨v', w', hrun, r1, r2, r3⟩ := run_append_mine (P := P) w base t o.type e i z size bytes h1 h2 h3 h4 h5 h6 h7 v k xs hown p m c news hn hc h1c b1 b2 b3
  unfold Oper.wpIn
  refine ⟨?_, ?_⟩
  · simp [Oper.about, hop, resolve, Target.leads, Sem.run_pure]
  · rw [Oper.semAt_plain F _ _ (by rw [hop]; intro c hc'; cases hc')]
    simp [execOp, hop, resolve, invoke, builtin, hs, hx, hrun, Result.andThen]
    exact hK' _ _ (hK v' w' r1 r2 r3)

theorem news_cells {w : World} {c : List Value} {t : TypeId} : ∀ j u, c[j]? = some u → (w.alloc (.cells c.toArray t)).cell? ((⟨w.heap.size, 0, none⟩ : Addr).add j) = some u := fun j u hj => by
  rw [Addr.add_lit, Nat.zero_add, World.cell?_alloc_at _ _ _ _ rfl]
  simpa using hj

/-- append of one element, which lies in a new block: where the answer lies. -/
theorem wpList_append_one {P : Program} (w : World) {ops : Array Oper} {rest : List Oper} {o : Oper} {a : Act} {Q : Exit → Act → World → Prop} (hgd : o.guard = none) (s x : Operand) (t : TypeId)
    (ho : o.op = .call { callee := .builtin .append, args := #[s, x], argTypes := #[t, t] })
    (base : Nat) (e : TypeId) (z : Value) (bytes : Nat) (hinfo : (P.info? e).map (fun i => (i.zero, i.size, i.bytes)) = some (some z, 1, bytes)) (ht : P.underlying t = some (.slice e)) (hzs : z.cells.size = 1)
    (v : Value) (n : Nat) (xs : List Value) (hs : a.eval s = v) (hown : w.ownsRow base e 1 v n xs) (u : Value) (te : TypeId) (hx : a.eval x = .slice (some ⟨w.heap.size, 0, none⟩) 1 1) (hu : u.oneCell' = true)
    (h63 : n + 1 ≤ maxLen) (hbytes : (n + 1) * bytes ≤ 140737488355328) (hbase : base ≤ w.heap.size)
    (h : ∀ g cap w', w'.ownsRow base e 1 (.slice (some ⟨g, 0, none⟩) (n + 1) cap) (n + 1) (xs ++ [u]) → Turns (fun b => v.ownBlock = some b) w w' → (v.ownBlock = some g ∨ w.heap.size ≤ g) → wpList P ops Q rest (a.put o.dst (.slice (some ⟨g, 0, none⟩) (n + 1) cap)) w') :
    wpList P ops Q (o :: rest) a (w.alloc (.cells #[u] te)) := by
  obtain ⟨i, hi, hz, hsz, hby⟩ := info_parts hinfo
  refine wpList_append_mine (P := P) (w.alloc (.cells #[u] te)) hgd s x t ho base e i z 1 bytes ht hi hz hsz hby hzs (by decide) v n xs hs (hown.alloc _) (some ⟨w.heap.size, 0, none⟩) 1 1 [u] hx rfl (.inr ⟨_, rfl, news_cells (c := [u])⟩)
    (fun q hq => by rcases List.mem_singleton.1 hq with rfl; exact hu) h63 hbytes (by rw [World.size_alloc]; omega) ?_
  intro v' w' h2 h3 h4
  rcases h2.2 with ⟨-, h0⟩ | ⟨g, cap, cur, rfl, -⟩
  · omega
  · refine h g cap w' h2 ?_ ?_
    · exact (Turns.of_below' (Below.al1 w _)).trans (Turns.of_grown h3 (fun _ h => h))
    · rcases h4 g rfl with h | h
      · exact .inl h
      · rw [World.size_alloc] at h
        exact .inr (by omega)

end Go.Proofs.Ytdcmalbbijchiaa

/- Slices as rows of cells: what a slice reads as; a row that is owned and stored into. Nothing here speaks of one program. -/
namespace Go.Proofs.Ytdcmalbbijchiaa
open Go.RowKit

theorem heap_kept_pushed (l : List Obj) (w : World) (k : Nat) (h : k < w.heap.size) : (l.foldl World.alloc w).heap[k]? = w.heap[k]? := by
  induction l generalizing w with
  | nil => rfl
  | cons x l ih => exact (ih (w.alloc x) (by simp; omega)).trans (Below.heap_alloc w x k h)
theorem heap_pushed (l : List Obj) (w : World) (i : Nat) (o : Obj) : (l.foldl World.alloc w).heap[w.heap.size + i]? = some o ↔ l[i]? = some o := by
  induction l generalizing w i with
  | nil => simp
  | cons x l ih =>
    cases i with
    | zero =>
      rw [List.foldl_cons, Nat.add_zero, heap_kept_pushed l (w.alloc x) w.heap.size (by simp), World.alloc_heap_new]
      simp
    | succ i =>
      have := ih (w.alloc x) i
      rw [World.size_alloc, Nat.add_assoc, Nat.add_comm 1 i] at this
      simpa using this
theorem two_set0 {W : World} {B : Nat} {t : TypeId} {a b : Value} (c : Value) (h : W.heap[B]? = some (.cells #[a, b] t)) : (W.setCell ⟨B, 0, none⟩ c).heap[B]? = some (.cells #[c, b] t) := by
  obtain ⟨hlt, hk⟩ := Array.getElem?_eq_some_iff.1 h
  show (W.heap.modify B _)[B]? = _
  rw [Array.getElem?_eq_getElem (by rw [Array.size_modify]; exact hlt), Array.getElem_modify_self, hk]
  rfl
theorem two_set1 {W : World} {B : Nat} {t : TypeId} {a b : Value} (c : Value) (h : W.heap[B]? = some (.cells #[a, b] t)) : (W.setCell ⟨B, 1, none⟩ c).heap[B]? = some (.cells #[a, c] t) := by
  obtain ⟨hlt, hk⟩ := Array.getElem?_eq_some_iff.1 h
  show (W.heap.modify B _)[B]? = _
  rw [Array.getElem?_eq_getElem (by rw [Array.size_modify]; exact hlt), Array.getElem_modify_self, hk]
  rfl
theorem Turns.set {T : Nat → Prop} {a W : World} (h : Turns T a W) {p : Addr} (hp : T p.block) (u : Value) : Turns T a (W.setCell p u) :=
  h.trans ⟨rfl, rfl, rfl, (KeepsWalks.setCell W p u).size, fun k _ hk => Below.heap_setCell _ _ _ k (fun e => hk (e ▸ hp))⟩
theorem Turns.set1 (B : Nat) (W : World) (u : Value) : Turns (fun b => b = B) W (W.setCell ⟨B, 0, none⟩ u) := Turns.set (T := fun b => b = B) (p := ⟨B, 0, none⟩) (Turns.refl _ W) rfl u
theorem Turns.drew {T : Nat → Prop} {a W : World} (h : Turns T a W) : Turns T a W.drew := ⟨h.os, h.tape, h.output, h.size, h.block⟩
theorem Turns.drewN {T : Nat → Prop} {a W : World} (h : Turns T a W) (n : Nat) : Turns T a (W.drewN n) := ⟨h.os, h.tape, h.output, h.size, h.block⟩
theorem size_one {vs : Array Value} (h : vs.size = 1) : ∃ a, vs = #[a] := by
  obtain ⟨l⟩ := vs
  match l, h with
  | [a], _ => exact ⟨a, rfl⟩
theorem size_two {vs : Array Value} (h : vs.size = 2) : ∃ a b, vs = #[a, b] := by
  obtain ⟨l⟩ := vs
  match l, h with
  | [a, b], _ => exact ⟨a, b, rfl⟩

/-- The place p holds, in W, the row xs: elements of k cells each. -/
def RowAt {α : Type} (enc : α → List Value) (k : Nat) (W : World) (p : Option Addr) (xs : List α) : Prop :=
  (p = none ∧ xs = []) ∨ ∃ b off, p = some ⟨b, off, none⟩ ∧ b < W.heap.size ∧ ∀ i x, xs[i]? = some x → ∀ j u, (enc x)[j]? = some u → W.cell? ⟨b, off + i * k + j, none⟩ = some u

/-- The slice v reads, in W, as xs. -/
def Row {α : Type} (enc : α → List Value) (k : Nat) (W : World) (v : Value) (xs : List α) : Prop :=
  ∃ p cap, v = .slice p xs.length cap ∧ xs.length ≤ cap ∧ cap ≤ maxLen ∧ RowAt enc k W p xs

theorem RowAt.turns {α : Type} {enc : α → List Value} {k : Nat} {W W' : World} {p : Option Addr} {xs : List α} {T : Nat → Prop} (h : RowAt enc k W p xs) (ht : Turns T W W') (hn : ∀ a, p = some a → ¬ T a.block) : RowAt enc k W' p xs := by
  rcases h with h | ⟨b, off, rfl, h3, h4⟩
  · exact .inl h
  · exact .inr ⟨b, off, rfl, Nat.lt_of_lt_of_le h3 ht.size, fun i x hi j u hj => (World.cell?_of_block (ht.block b h3 (hn _ rfl))).trans (h4 i x hi j u hj)⟩
theorem Row.turns {α : Type} {enc : α → List Value} {k : Nat} {W W' : World} {v : Value} {xs : List α} {T : Nat → Prop} (h : Row enc k W v xs) (ht : Turns T W W') (hn : ∀ b, v.ownBlock = some b → ¬ T b) : Row enc k W' v xs := by
  obtain ⟨p, cap, rfl, h1, h2, h3⟩ := h
  exact ⟨p, cap, rfl, h1, h2, h3.turns ht (fun a e => hn a.block (by rw [e]; rfl))⟩
theorem RowAt.below {α : Type} {enc : α → List Value} {k : Nat} {W W' : World} {p : Option Addr} {xs : List α} (h : RowAt enc k W p xs) (hb : Below W.heap.size W W') : RowAt enc k W' p xs :=
  h.turns (T := fun _ => False) (Turns.of_below' hb) (fun _ _ h => h)
theorem Row.below {α : Type} {enc : α → List Value} {k : Nat} {W W' : World} {v : Value} {xs : List α} (h : Row enc k W v xs) (hb : Below W.heap.size W W') : Row enc k W' v xs :=
  h.turns (T := fun _ => False) (Turns.of_below' hb) (fun _ _ h => h)
theorem Row.len {α : Type} {enc : α → List Value} {k : Nat} {W : World} {v : Value} {xs : List α} (h : Row enc k W v xs) : xs.length ≤ 9223372036854775807 := by
  obtain ⟨p, cap, rfl, h1, h2, h3⟩ := h; simp only [maxLen] at h2; omega

theorem lt_of_same {w W : World} {b : Nat} (h : b < w.heap.size) (hs : W.heap[b]? = w.heap[b]?) : b < W.heap.size := by
  rw [Array.getElem?_eq_getElem h] at hs
  exact (Array.getElem?_eq_some_iff.1 hs).1
theorem RowAt.same {α : Type} {enc : α → List Value} {k : Nat} {w W : World} {p : Option Addr} {xs : List α} (h : RowAt enc k w p xs) (hs : ∀ a, p = some a → W.heap[a.block]? = w.heap[a.block]?) : RowAt enc k W p xs := by
  rcases h with h | ⟨b, off, rfl, h3, h4⟩
  · exact .inl h
  · exact .inr ⟨b, off, rfl, lt_of_same h3 (hs _ rfl), fun i x hi j u hj => (World.cell?_of_block (a := ⟨b, off + i * k + j, none⟩) (hs ⟨b, off, none⟩ rfl)).trans (h4 i x hi j u hj)⟩
theorem Row.same {α : Type} {enc : α → List Value} {k : Nat} {w W : World} {v : Value} {xs : List α} (h : Row enc k w v xs) (hs : ∀ b, v.ownBlock = some b → W.heap[b]? = w.heap[b]?) : Row enc k W v xs := by
  obtain ⟨p, cap, rfl, h1, h2, h3⟩ := h
  exact ⟨p, cap, rfl, h1, h2, h3.same (fun a e => hs a.block (by rw [e]; rfl))⟩
theorem Boxed.same {w W : World} {B : Nat} {t : TypeId} {v : Value} (h : Boxed w B t v) (hs : W.heap[B]? = w.heap[B]?) : Boxed W B t v := hs.trans h

theorem flat_at' {α : Type} {enc : α → List Value} {k : Nat} (hk : ∀ x, (enc x).length = k) (l : List α) (i j : Nat) (hj : j < k) : (l.flatMap enc)[i * k + j]? = l[i]?.bind (fun x => (enc x)[j]?) := by
  induction l generalizing i with
  | nil => simp
  | cons x l ih =>
    rw [List.flatMap_cons]
    cases i with
    | zero =>
      rw [Nat.zero_mul, Nat.zero_add, List.getElem?_append_left (by rw [hk]; exact hj)]
      simp
    | succ i =>
      rw [List.getElem?_append_right (by rw [hk, Nat.add_mul]; omega), hk, show (i + 1) * k + j - k = i * k + j by rw [Nat.add_mul]; omega, ih]
      simp
theorem owns_row' {α : Type} {enc : α → List Value} {k : Nat} (hk : ∀ x, (enc x).length = k) {W : World} {base : Nat} {e : TypeId} {v : Value} {xs : List α} (h : W.ownsRow base e k v xs.length (xs.flatMap enc)) : Row enc k W v xs := by
  rcases h.2 with ⟨rfl, h0⟩ | ⟨g, cap, cur, rfl, hb, hg, hn, hm, hs, ht⟩
  · have hx : xs = [] := List.eq_nil_of_length_eq_zero h0
    subst hx
    exact ⟨none, 0, rfl, by simp, by simp [maxLen], .inl ⟨rfl, rfl⟩⟩
  · refine ⟨some ⟨g, 0, none⟩, cap, rfl, hn, hm, .inr ⟨g, 0, rfl, (Array.getElem?_eq_some_iff.1 hg).1, fun i x hi j u hj => ?_⟩⟩
    have hjk : j < k := by have := (List.getElem?_eq_some_iff.1 hj).1; rw [hk] at this; exact this
    have h1 := flat_at' hk xs i j hjk
    rw [hi] at h1
    simp only [Option.bind_some] at h1
    rw [hj, ← ht, List.getElem?_take] at h1
    split at h1
    · simp only [Nat.zero_add]
      rw [cell_of_row W g (i * k + j) cur e (0, 0) hg]
      simpa using h1
    · cases h1

theorem owns_slice {W : World} {base : Nat} {e : TypeId} {size : Nat} {v : Value} {n : Nat} {xs : List Value} (h : W.ownsRow base e size v n xs) : ∃ p c, v = .slice p n c := by
  rcases h.2 with ⟨rfl, rfl⟩ | ⟨g, cap, cur, rfl, _⟩
  · exact ⟨_, _, rfl⟩
  · exact ⟨_, _, rfl⟩

theorem owns_nil_cap {W : World} {base : Nat} {e : TypeId} {size : Nat} {v : Value} {n : Nat} {xs : List Value} (h : W.ownsRow base e size v n xs) : ∀ c, v = .slice none 0 c → c = 0 := by
  rintro c rfl
  rcases h.2 with ⟨h0, _⟩ | ⟨g, cap, cur, h1, _⟩
  · cases h0; rfl
  · cases h1

/-- A slice that reads so; nil has no room. -/
structure RwG {α : Type} (enc : α → List Value) (k : Nat) (w : World) (v : Value) (xs : List α) : Prop where
  row : Row enc k w v xs
  nil : ∀ c, v = .slice none 0 c → c = 0

theorem RwG.below {α : Type} {enc : α → List Value} {k : Nat} {w w1 : World} {v : Value} {xs : List α} (h : RwG enc k w v xs) (hb : Below w.heap.size w w1) : RwG enc k w1 v xs := ⟨h.row.below hb, h.nil⟩
theorem RwG.turns {α : Type} {enc : α → List Value} {k : Nat} {w w1 : World} {v : Value} {xs : List α} {T : Nat → Prop} (h : RwG enc k w v xs) (ht : Turns T w w1) (hn : ∀ b, v.ownBlock = some b → ¬ T b) : RwG enc k w1 v xs := ⟨h.row.turns ht hn, h.nil⟩
theorem RwG.owned {α : Type} {enc : α → List Value} {k : Nat} (hk : ∀ x, (enc x).length = k) {w : World} {base : Nat} {e : TypeId} {v : Value} {xs : List α} (h : w.ownsRow base e k v xs.length (xs.flatMap enc)) : RwG enc k w v xs := ⟨owns_row' hk h, owns_nil_cap h⟩
theorem RwG.lt {α : Type} {enc : α → List Value} {k : Nat} {w : World} {v : Value} {xs : List α} (h : RwG enc k w v xs) : ∀ b, v.ownBlock = some b → b < w.heap.size := by
  obtain ⟨⟨p, cap, rfl, -, -, h3⟩, -⟩ := h
  rcases h3 with ⟨rfl, rfl⟩ | ⟨b, off, rfl, h3, h4⟩
  · intro b h; cases h
  · intro b' h; cases h; exact h3

theorem RwG.src {α : Type} {enc : α → List Value} {k : Nat} (hk : ∀ x, (enc x).length = k) (h0 : 0 < k) {w : World} {v : Value} {xs : List α} (h : RwG enc k w v xs) : ∃ p c, v = .slice p xs.length c ∧ xs.length ≤ c ∧ c ≤ maxLen ∧ ((p = none ∧ xs.length = 0 ∧ c = 0) ∨ ∃ ad, p = some ad ∧ ∀ j u, (xs.flatMap enc)[j]? = some u → w.cell? (ad.add j) = some u) := by
  obtain ⟨⟨p, c, rfl, h1, h2, h3⟩, hn⟩ := h
  refine ⟨p, c, rfl, h1, h2, ?_⟩
  rcases h3 with ⟨rfl, rfl⟩ | ⟨b, off, rfl, h4, h5⟩
  · exact .inl ⟨rfl, rfl, hn _ rfl⟩
  · refine .inr ⟨_, rfl, fun j u hu => ?_⟩
    have hm := Nat.mod_lt j h0
    have hj : j / k * k + j % k = j := by rw [Nat.mul_comm]; exact Nat.div_add_mod j k
    have h1 := flat_at' hk xs (j / k) (j % k) hm
    rw [hj, hu] at h1
    cases hx : xs[j / k]? with
    | none => rw [hx] at h1; cases h1
    | some x =>
      rw [hx] at h1
      have h6 := h5 (j / k) x hx (j % k) u h1.symm
      rw [Nat.add_assoc, hj] at h6
      rw [Addr.add_lit]
      exact h6

/-- One cell of a row that is owned, stored anew. -/
theorem owns_setCell {W : World} {base : Nat} {e : TypeId} {size g n cap : Nat} {xs : List Value} (h : W.ownsRow base e size (.slice (some ⟨g, 0, none⟩) n cap) n xs) (j : Nat) (u : Value) :
    (W.setCell ⟨g, j, none⟩ u).ownsRow base e size (.slice (some ⟨g, 0, none⟩) n cap) n (xs.set j u) := by
  rcases h.2 with ⟨h0, _⟩ | ⟨g', cap', cur, h0, hb, hg, hn, hm, hs, ht⟩
  · cases h0
  · cases h0
    have hh : (W.setCell ⟨g, j, none⟩ u).heap[g]? = some (.cells (cur.setIfInBounds j u) e (0, 0)) := by
      obtain ⟨hlt, hk⟩ := Array.getElem?_eq_some_iff.1 hg
      show (W.heap.modify g _)[g]? = _
      rw [Array.getElem?_eq_getElem (by rw [Array.size_modify]; exact hlt), Array.getElem_modify_self, hk]
      simp
    exact ⟨by simpa using h.1, .inr ⟨g, cap, _, rfl, hb, hh, hn, hm, by simpa using hs, by rw [Array.toList_setIfInBounds, List.take_set, ht]⟩⟩

end Go.Proofs.Ytdcmalbbijchiaa
