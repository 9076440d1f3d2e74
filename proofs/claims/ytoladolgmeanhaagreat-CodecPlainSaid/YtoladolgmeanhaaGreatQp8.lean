/- Several texts in one, each with its own head. -/
import Derived.Test.YtoladolgmeanhaaGreatQp7
/- huff's pairs: parcels bound two by two, those that cost least first. -/
namespace Go.Proofs.YtoladolgmeanhaaGreat
open Go.RowKit

def NodeAt (w : World) (N : Nat → Prop) (r : Nat) (a b : Nat × Nat) : Prop :=
  ∃ g, N r ∧ N g ∧ w.heap[r]? = some (.cells #[.int .i64 ((a.2 : Int) + (b.2 : Int)), .int .i64 0, .slice (some ⟨g, 0, none⟩) 2 2] 201) ∧ w.heap[g]? = some (.cells #[ptrV a.1, ptrV b.1] 202)
def Nodes (w : World) (N : Nat → Prop) : List (Nat × Nat) → List Nat → Prop
  | [], [] => True
  | a :: b :: P, r :: rs => NodeAt w N r a b ∧ Nodes w N P rs
  | _, _ => False
theorem lt_heap {w : World} {i : Nat} {o : Obj} (h : w.heap[i]? = some o) : i < w.heap.size := (Array.getElem?_eq_some_iff.1 h).1
theorem NodeAt.keep {w w' : World} {N N' : Nat → Prop} {r : Nat} {a b : Nat × Nat} (h : NodeAt w N r a b) (hk : ∀ i, i < w.heap.size → N i → w'.heap[i]? = w.heap[i]? ∧ N' i) : NodeAt w' N' r a b := by
  obtain ⟨g, h1, h2, h3, h4⟩ := h
  have k1 := hk r (lt_heap h3) h1
  have k2 := hk g (lt_heap h4) h2
  exact ⟨g, k1.2, k2.2, k1.1.trans h3, k2.1.trans h4⟩
theorem Nodes.keep {w w' : World} {N N' : Nat → Prop} (hk : ∀ i, i < w.heap.size → N i → w'.heap[i]? = w.heap[i]? ∧ N' i) : ∀ {P : List (Nat × Nat)} {rs : List Nat}, Nodes w N P rs → Nodes w' N' P rs
  | [], [], _ => trivial
  | _ :: _ :: _, _ :: _, ⟨h1, h2⟩ => ⟨h1.keep hk, Nodes.keep hk h2⟩
  | [], _ :: _, h => h.elim
  | [_], _, h => by cases ‹List Nat› <;> exact h.elim
  | _ :: _ :: _, [], h => h.elim
theorem Nodes.snoc {w : World} {N : Nat → Prop} {r : Nat} {a b : Nat × Nat} (hn : NodeAt w N r a b) : ∀ {P : List (Nat × Nat)} {rs : List Nat}, Nodes w N P rs → Nodes w N (P ++ [a, b]) (rs ++ [r])
  | [], [], _ => ⟨hn, trivial⟩
  | _ :: _ :: _, _ :: _, ⟨h1, h2⟩ => ⟨h1, Nodes.snoc hn h2⟩
  | [], _ :: _, h => h.elim
  | [_], _, h => by cases ‹List Nat› <;> exact h.elim
  | _ :: _ :: _, [], h => h.elim
theorem Heap.slice {w : World} {base B : Nat} {sv : Value} {E : List (Nat × Nat)} (h : Heap w base B sv E) : ∃ p c, sv = .slice p E.length c := by
  obtain ⟨F, h1, -, h3⟩ := h
  rw [← h1.length_eq]
  exact owns_slice h3.own
theorem Heap.c0 {w : World} {base B : Nat} {sv : Value} {E : List (Nat × Nat)} (h : Heap w base B sv E) : w.cell? ⟨B, 0, none⟩ = some sv := by
  obtain ⟨F, -, -, h3⟩ := h
  exact h3.c0
theorem Heap.own {w : World} {base B : Nat} {sv : Value} {E : List (Nat × Nat)} (h : Heap w base B sv E) : ∀ k, sv.ownBlock = some k → base ≤ k ∧ k < w.heap.size := by
  obtain ⟨F, -, -, h3⟩ := h
  exact h3.own.lt
theorem Heap.lt {w : World} {base B : Nat} {sv : Value} {E : List (Nat × Nat)} (h : Heap w base B sv E) : B < base ∧ B < w.heap.size := by
  obtain ⟨F, -, -, h3⟩ := h
  exact ⟨h3.lt, h3.size⟩
theorem hq_news_at (w : World) (t : TypeId) (cs : List Value) (n : Nat) (hn : n = w.heap.size) : ∀ j u, cs[j]? = some u → (w.alloc (.cells cs.toArray t)).drew.cell? ((⟨n, 0, none⟩ : Addr).add j) = some u := by
  subst hn; exact hq_news w t cs
theorem hq_base {W : World} {base base' : Nat} {e : TypeId} {size : Nat} {v : Value} {n : Nat} {xs : List Value} (h : W.ownsRow base e size v n xs) (hb : base' ≤ base) : W.ownsRow base' e size v n xs := by
  refine ⟨h.1, ?_⟩
  rcases h.2 with h0 | ⟨g, cap, cur, h1, h2, h3⟩
  · exact .inl h0
  · exact .inr ⟨g, cap, cur, h1, by omega, h3⟩
def lenP : Value → Nat
  | .slice _ n _ => n
  | _ => 0
structure PairInv (w wr : World) (base B : Nat) (L : List (Nat × Nat)) (v sv : Value) (E P : List (Nat × Nat)) (rs : List Nat) : Prop where
  heap : Heap wr base B sv E
  perm : (P ++ E).Perm L
  up : P.Pairwise fun a b => a.2 ≤ b.2
  le : ∀ p ∈ P, ∀ e ∈ E, p.2 ≤ e.2
  even : P.length = 2 * rs.length
  own : wr.ownsRow base 202 1 v rs.length (rs.map ptrV)
  nodes : Nodes wr (fun i => base ≤ i ∧ sv.ownBlock ≠ some i ∧ v.ownBlock ≠ some i) P rs
  apart : ∀ k, v.ownBlock = some k → sv.ownBlock ≠ some k
  below : Below w.heap.size w wr
structure PairMid (w wr : World) (base B : Nat) (L : List (Nat × Nat)) (v sv : Value) (E P : List (Nat × Nat)) (rs : List Nat) (x y : Nat × Nat) : Prop where
  heap : Heap wr base B sv E
  perm : (P ++ [x, y] ++ E).Perm L
  up : (P ++ [x, y]).Pairwise fun a b => a.2 ≤ b.2
  le : ∀ p ∈ P ++ [x, y], ∀ e ∈ E, p.2 ≤ e.2
  even : P.length = 2 * rs.length
  own : wr.ownsRow base 202 1 v rs.length (rs.map ptrV)
  nodes : Nodes wr (fun i => base ≤ i ∧ sv.ownBlock ≠ some i ∧ v.ownBlock ≠ some i) P rs
  apart : ∀ k, v.ownBlock = some k → sv.ownBlock ≠ some k
  below : Below w.heap.size w wr
theorem PairInv.mid {w wr w1 w2 : World} {B : Nat} {L : List (Nat × Nat)} {v sv sv1 : Value} {E E1 E2 P : List (Nat × Nat)} {rs : List Nat} {x y : Nat × Nat} (h : PairInv w wr (w.heap.size + 1) B L v sv E P rs) (hB : B = w.heap.size) (hx : (x :: E1).Perm E) (hx2 : ∀ z ∈ E1, x.2 ≤ z.2) (hy : (y :: E2).Perm E1) (hy2 : ∀ z ∈ E2, y.2 ≤ z.2)
    (ht1 : Turns (fun b => b = B ∨ sv.ownBlock = some b) wr w1) (hs1 : ∀ k, sv1.ownBlock = some k → sv.ownBlock = some k ∨ wr.heap.size ≤ k) (k : HeapTo (w.heap.size + 1) B sv1 E2 w1 w2) : ∃ sv2, PairMid w w2 (w.heap.size + 1) B L v sv2 E2 P rs x y := by
  obtain ⟨sv2, k1, k2, k3⟩ := HeapTo.step ht1 hs1 k
  have hown := h.heap.own
  have hn : ∀ i, w.heap.size + 1 ≤ i → i < wr.heap.size → sv.ownBlock ≠ some i → w2.heap[i]? = wr.heap[i]? ∧ sv2.ownBlock ≠ some i := fun i h1 h2 h3 => ⟨k2.block i h2 (fun e => by
    rcases e with e | e
    · omega
    · exact h3 e), fun e => by
    rcases k3 i e with e | e
    · exact h3 e
    · omega⟩
  have hmemE : ∀ z ∈ E1, z ∈ E := fun z hz => hx.mem_iff.1 (List.mem_cons_of_mem _ hz)
  have hyE1 : y ∈ E1 := hy.mem_iff.1 (List.mem_cons_self ..)
  refine ⟨sv2, k1, ?_, ?_, ?_, h.even, ?_, ?_, ?_, ?_⟩
  · refine List.Perm.trans ?_ h.perm
    rw [List.append_assoc]
    exact (((hy.cons x).trans hx)).append_left P
  · rw [List.pairwise_append]
    refine ⟨h.up, ?_, fun p hp q hq => ?_⟩
    · refine List.pairwise_cons.2 ⟨fun q hq => ?_, List.pairwise_cons.2 ⟨(fun q hq => by cases hq), List.Pairwise.nil⟩⟩
      obtain rfl : q = y := by simpa using hq
      exact hx2 _ hyE1
    · refine h.le p hp q ?_
      rcases List.mem_cons.1 hq with rfl | hq
      · exact hx.mem_iff.1 (List.mem_cons_self ..)
      · obtain rfl : q = y := by simpa using hq
        exact hmemE _ hyE1
  · intro p hp e he
    have heE1 : e ∈ E1 := hy.mem_iff.1 (List.mem_cons_of_mem _ he)
    rcases List.mem_append.1 hp with hp | hp
    · exact h.le p hp e (hmemE e heE1)
    · rcases List.mem_cons.1 hp with rfl | hp
      · exact hx2 e heE1
      · obtain rfl : p = y := by simpa using hp
        exact hy2 e he
  · exact k2.owns h.own (fun i hi e => by
      have := h.own.lt i hi
      rcases e with e | e
      · omega
      · exact h.apart i hi e)
  · exact h.nodes.keep (fun i hi hN => by
      obtain ⟨q1, q2⟩ := hn i hN.1 hi hN.2.1
      exact ⟨q1, hN.1, q2, hN.2.2⟩)
  · intro k hk
    have := h.own.lt k hk
    exact (hn k this.1 this.2 (h.apart k hk)).2
  · exact h.below.trans (k2.below h.below.size (fun i e => by
      rcases e with e | e
      · omega
      · have := hown i e; omega))
theorem PairMid.bound {w w5 w6 : World} {B : Nat} {L : List (Nat × Nat)} {pv : Option Addr} {cv g5 cap5 : Nat} {sv : Value} {E P : List (Nat × Nat)} {rs : List Nat} {x y : Nat × Nat} (h : PairMid w w5 (w.heap.size + 1) B L (.slice pv rs.length cv) sv E P rs x y) (hB : B = w.heap.size) (hL : ∀ e ∈ L, e.1 < w.heap.size) (hsz : w.heap.size + 1 ≤ w5.heap.size)
    (ho : w6.ownsRow (w.heap.size + 1) 202 1 (.slice (some ⟨g5, 0, none⟩) (rs.length + 1) cap5) (rs.length + 1) (rs.map ptrV ++ [ptrV (w5.heap.size + 1)]))
    (hg : (((w5.alloc (.cells #[ptrV x.1, ptrV y.1] 202)).alloc (.cells #[.int .i64 ((x.2 : Int) + (y.2 : Int)), .int .i64 0, .slice (some ⟨w5.heap.size, 0, none⟩) 2 2] 201)).alloc (.cells #[ptrV (w5.heap.size + 1)] 202)).drew.grownBy w6 (Value.slice pv rs.length cv).ownBlock)
    (hpl : (Value.slice pv rs.length cv).ownBlock = some g5 ∨ g5 = w5.heap.size + 3) :
    PairInv w w6 (w.heap.size + 1) B L (.slice (some ⟨g5, 0, none⟩) (rs.length + 1) cap5) sv E (P ++ [x, y]) (rs ++ [w5.heap.size + 1]) := by
  have hb3 : Below w5.heap.size w5 (((w5.alloc (.cells #[ptrV x.1, ptrV y.1] 202)).alloc (.cells #[.int .i64 ((x.2 : Int) + (y.2 : Int)), .int .i64 0, .slice (some ⟨w5.heap.size, 0, none⟩) 2 2] 201)).alloc (.cells #[ptrV (w5.heap.size + 1)] 202)).drew := (Below.al3 w5 _ _ _).drew
  have hg0 := Turns.of_grown (T := fun i => (Value.slice pv rs.length cv).ownBlock = some i) hg (fun _ h => h)
  have hlt := fun k hk => h.own.lt k hk
  have ht : Turns (fun i => (Value.slice pv rs.length cv).ownBlock = some i) w5 w6 := (Turns.of_below' (T := fun i => (Value.slice pv rs.length cv).ownBlock = some i) hb3).trans hg0
  have hg5 : ∀ i, i < w5.heap.size + 3 → (Value.slice pv rs.length cv).ownBlock ≠ some i → (Value.slice (some ⟨g5, 0, none⟩) (rs.length + 1) cap5).ownBlock ≠ some i := fun i h1 h2 e => by
    cases e
    rcases hpl with h | h
    · exact h2 h
    · have h1' : g5 < w5.heap.size + 3 := h1
      omega
  have e0 : w6.heap[w5.heap.size]? = some (.cells #[ptrV x.1, ptrV y.1] 202) := by
    refine (hg0.block w5.heap.size (by simp; omega) (fun e => by have := (hlt _ e).2; omega)).trans ?_
    exact (heap_pushed [.cells #[ptrV x.1, ptrV y.1] 202, .cells #[.int .i64 ((x.2 : Int) + (y.2 : Int)), .int .i64 0, .slice (some ⟨w5.heap.size, 0, none⟩) 2 2] 201, .cells #[ptrV (w5.heap.size + 1)] 202] w5 0 _).2 rfl
  have e1 : w6.heap[w5.heap.size + 1]? = some (.cells #[.int .i64 ((x.2 : Int) + (y.2 : Int)), .int .i64 0, .slice (some ⟨w5.heap.size, 0, none⟩) 2 2] 201) := by
    refine (hg0.block (w5.heap.size + 1) (by simp) (fun e => by have := (hlt _ e).2; omega)).trans ?_
    exact (heap_pushed [.cells #[ptrV x.1, ptrV y.1] 202, .cells #[.int .i64 ((x.2 : Int) + (y.2 : Int)), .int .i64 0, .slice (some ⟨w5.heap.size, 0, none⟩) 2 2] 201, .cells #[ptrV (w5.heap.size + 1)] 202] w5 1 _).2 rfl
  have hso := h.heap.own
  have hvn : ∀ i, w5.heap.size ≤ i → (Value.slice pv rs.length cv).ownBlock ≠ some i := fun i hi e => by have := (hlt i e).2; omega
  have hsn : ∀ i, w5.heap.size ≤ i → sv.ownBlock ≠ some i := fun i hi e => by have := (hso i e).2; omega
  refine ⟨?_, h.perm, h.up, h.le, ?_, ?_, ?_, ?_, ?_⟩
  · obtain ⟨F, f1, f2, f3⟩ := h.heap
    refine ⟨F, f1, f2, f3.lt, (ht.block B f3.size (fun e => by have := (hlt _ e).1; omega)).trans f3.box, ht.owns f3.own (fun k hk e => h.apart k e hk), fun e he => ?_⟩
    obtain ⟨k1, k2, k3⟩ := f3.keys e he
    refine ⟨k1, k2, ?_⟩
    refine ht.cell k3 (fun hv => ?_)
    have h1 := (hlt _ hv).1
    have h2 := hL e (h.perm.mem_iff.1 (List.mem_append_right _ (f1.mem_iff.1 he)))
    simp only at h1
    omega
  · rw [List.length_append, List.length_append, h.even]
    simp
    omega
  · rw [List.length_append, List.map_append]
    exact ho
  · refine Nodes.snoc ⟨w5.heap.size, ⟨by omega, hsn _ (by omega), hg5 _ (by omega) (hvn _ (by omega))⟩, ⟨by omega, hsn _ (by omega), hg5 _ (by omega) (hvn _ (by omega))⟩, e1, e0⟩ (h.nodes.keep (fun i hi hN => ⟨ht.block i hi hN.2.2, hN.1, hN.2.1, hg5 i (by omega) hN.2.2⟩))
  · intro k hk e
    rcases hpl with hp | hp
    · cases hk
      exact h.apart _ hp e
    · cases hk
      exact hsn _ (by simp only; omega) e
  · exact h.below.trans (ht.below h.below.size (fun i e => by have := (hlt i e).1; omega))
end Go.Proofs.YtoladolgmeanhaaGreat

/- huff's parcels as trees in memory; pairs and cheapest over them. -/
namespace Go.Proofs.YtoladolgmeanhaaGreat
open Go.RowKit

def TrAt (w : World) (N : Nat → Prop) : Nat → Tr → Prop
  | b, .leaf s c => N b ∧ w.heap[b]? = some (.cells #[.int .i64 (c : Int), .int .i64 (s : Int), .slice none 0 0] 201)
  | b, .node x y => N b ∧ ∃ g bx by', N g ∧ w.heap[b]? = some (.cells #[.int .i64 ((x.cost : Int) + (y.cost : Int)), .int .i64 0, .slice (some ⟨g, 0, none⟩) 2 2] 201) ∧
      w.heap[g]? = some (.cells #[ptrV bx, ptrV by'] 202) ∧ TrAt w N bx x ∧ TrAt w N by' y
theorem TrAt.keep {w w' : World} {N N' : Nat → Prop} (hk : ∀ i, i < w.heap.size → N i → w'.heap[i]? = w.heap[i]? ∧ N' i) : ∀ {t : Tr} {b : Nat}, TrAt w N b t → TrAt w' N' b t
  | .leaf _ _, b, h => by
    unfold TrAt at h ⊢
    have k1 := hk b (lt_heap h.2) h.1
    exact ⟨k1.2, k1.1.trans h.2⟩
  | .node _ _, b, h => by
    unfold TrAt at h ⊢
    obtain ⟨h1, g, bx, by', h2, h3, h4, h5, h6⟩ := h
    have k1 := hk b (lt_heap h3) h1
    have k2 := hk g (lt_heap h4) h2
    exact ⟨k1.2, g, bx, by', k2.2, k1.1.trans h3, k2.1.trans h4, TrAt.keep hk h5, TrAt.keep hk h6⟩
theorem TrAt.below {w w' : World} {N : Nat → Prop} {t : Tr} {b : Nat} (h : TrAt w N b t) (hb : Below w.heap.size w w') : TrAt w' N b t :=
  h.keep (fun i hi hN => ⟨hb.block i hi, hN⟩)
theorem TrAt.cost {w : World} {N : Nat → Prop} : ∀ {t : Tr} {b : Nat}, TrAt w N b t → w.cell? ⟨b, 0, none⟩ = some (.int .i64 (t.cost : Int))
  | .leaf _ _, b, h => by
    unfold TrAt at h
    simp [World.cell?, h.2, Tr.cost]
  | .node _ _, b, h => by
    unfold TrAt at h
    obtain ⟨h1, g, bx, by', h2, h3, h4, h5, h6⟩ := h
    simp [World.cell?, h3, Tr.cost]
def ckey (e : Nat × Tr) : Nat × Nat := (e.1, e.2.cost)
theorem nodes_trees {w : World} {N N0 : Nat → Prop} (hN : ∀ i, N0 i → N i) : ∀ {rs : List Nat} {P E : List (Nat × Nat)} {Q : List (Nat × Tr)}, Q.map ckey = P ++ E → E.length ≤ 1 → Nodes w N0 P rs → (∀ e ∈ Q, TrAt w N e.1 e.2) →
    ∃ rt : List (Nat × Tr), rt.map Prod.fst = rs ∧ rt.map Prod.snd = pairT (Q.map Prod.snd) ∧ ∀ e ∈ rt, TrAt w N e.1 e.2
  | [], [], E, Q, hQ, hE, _, _ => by
    refine ⟨[], rfl, ?_, fun e he => by cases he⟩
    have hl := congrArg List.length hQ
    simp at hl
    match Q, hl with
    | [], _ => simp [pairT]
    | [_], _ => simp [pairT]
    | _ :: _ :: _, hl => simp at hl; omega
  | r :: rs, a :: b :: P, E, Q, hQ, hE, hn, ht => by
    obtain ⟨h1, h2⟩ := hn
    match Q, hQ with
    | [], hQ => cases hQ
    | [_], hQ => simp at hQ
    | qa :: qb :: Q, hQ =>
      simp only [List.map_cons, List.cons_append, List.cons.injEq] at hQ
      obtain ⟨ea, eb, hQ⟩ := hQ
      obtain ⟨rt, r1, r2, r3⟩ := nodes_trees hN hQ hE h2 (fun e he => ht e (List.mem_cons_of_mem _ (List.mem_cons_of_mem _ he)))
      obtain ⟨g, n1, n2, n3, n4⟩ := h1
      subst ea eb
      refine ⟨(r, .node qa.2 qb.2) :: rt, by rw [List.map_cons, r1], by simp only [List.map_cons, pairT, r2], fun e he => ?_⟩
      rcases List.mem_cons.1 he with rfl | he
      · unfold TrAt
        exact ⟨hN _ n1, g, qa.1, qb.1, hN _ n2, n3, n4, ht qa (by simp), ht qb (by simp)⟩
      · exact r3 e he
  | [], [_], _, _, _, _, h, _ => h.elim
  | _ :: _, [_], _, _, _, _, h, _ => h.elim
  | [], _ :: _ :: _, _, _, _, _, h, _ => h.elim
  | _ :: _, [], _, _, _, _, h, _ => h.elim
theorem map_ckey_fst (l : List (Nat × Tr)) : (l.map ckey).map Prod.fst = l.map Prod.fst := by rw [List.map_map]; rfl
theorem RowT.len_le {ls : List Tr} : ∀ {j : Nat} {P : List Tr}, RowT ls j P → P.length ≤ 2 * ls.length
  | 0, _, h => by subst h; simp
  | j + 1, P, ⟨Q, hQ, _, hp⟩ => by
    have h1 := RowT.len_le hQ
    have h2 := hp.length_eq
    rw [List.length_append, pairT_len] at h2
    omega
theorem RowT.cost_le {ls : List Tr} {C : Nat} (hc : ∀ t ∈ ls, t.cost ≤ C) : ∀ {j : Nat} {P : List Tr}, RowT ls j P → ∀ t ∈ P, t.cost ≤ C * 2 ^ j
  | 0, _, h, t, ht => by subst h; cases ht
  | j + 1, P, ⟨Q, hQ, _, hp⟩, t, ht => by
    have h2 : C * 2 ^ (j + 1) = C * 2 ^ j + C * 2 ^ j := by rw [Nat.pow_succ, ← Nat.mul_assoc]; omega
    rcases List.mem_append.1 (hp.mem_iff.1 ht) with h | h
    · have := hc t h
      have h3 : C * 1 ≤ C * 2 ^ (j + 1) := Nat.mul_le_mul_left C (pow_pos2 _)
      omega
    · obtain ⟨a, b, rfl, ha, hb⟩ := pairT_node _ t h
      have h3 := RowT.cost_le hc hQ a ha
      have h4 := RowT.cost_le hc hQ b hb
      simp only [Tr.cost]
      omega
end Go.Proofs.YtoladolgmeanhaaGreat

/- huff's cheapest. -/
namespace Go.Proofs.YtoladolgmeanhaaGreat
open Go.RowKit

theorem RowAt.take {α : Type} {enc : α → List Value} {k : Nat} {W : World} {p : Option Addr} {xs : List α} (h : RowAt enc k W p xs) (m : Nat) : RowAt enc k W p (xs.take m) := by
  rcases h with ⟨h1, rfl⟩ | ⟨b, off, rfl, h2, h3⟩
  · exact .inl ⟨h1, by simp⟩
  · refine .inr ⟨b, off, rfl, h2, fun i x hi j u hj => h3 i x ?_ j u hj⟩
    rw [List.getElem?_take] at hi
    split at hi
    · exact hi
    · cases hi
theorem Row.take {α : Type} {enc : α → List Value} {k : Nat} {W : World} {p : Option Addr} {n c : Nat} {xs : List α} (h : Row enc k W (.slice p n c) xs) {m : Nat} (hm : m ≤ xs.length) : Row enc k W (.slice p m c) (xs.take m) := by
  obtain ⟨p', c', e, h1, h2, h3⟩ := h
  cases e
  have hl : (xs.take m).length = m := by rw [List.length_take]; omega
  exact ⟨p, c, by rw [hl], by omega, h2, h3.take m⟩
theorem own_ptrs {W : World} {base : Nat} {v : Value} {n : Nat} {bs : List Nat} (h : W.ownsRow base 202 1 v n (bs.map ptrV)) (hn : n = bs.length) : Row encPr 1 W v bs := by
  subst hn
  rw [← flatPr] at h
  exact owns_row' encPr_len h
end Go.Proofs.YtoladolgmeanhaaGreat

/- huff's mayBe, singles, count. -/
namespace Go.Proofs.YtoladolgmeanhaaGreat
open Go.RowKit

def encZ (i : Int) : List Value := [.int .i64 i]
theorem RowAt.int {W : World} {p : Option Addr} {xs : List Int} (h : RowAt encZ 1 W p xs) {k : Nat} (hk : k < xs.length) : ∃ b off, p = some ⟨b, off, none⟩ ∧ W.cell? ⟨b, off + k, none⟩ = some (.int .i64 xs[k]) := by
  rcases h with ⟨-, rfl⟩ | ⟨b, off, rfl, -, h⟩
  · simp at hk
  · refine ⟨b, off, rfl, ?_⟩
    have := h k xs[k] (List.getElem?_eq_getElem hk) 0 _ rfl
    simpa using this
def okF (f : Int) : Bool := decide (0 ≤ f ∧ f ≤ 1099511627776)
def mayB (fs : List Int) (limit : Int) : Bool := decide (1 ≤ limit ∧ limit ≤ 15 ∧ fs.length ≤ 320) && fs.all okF
theorem all_at {fs : List Int} {k : Nat} (hk : k < fs.length) (h : (fs.take k).all okF = true) : (okF fs[k] = false → fs.all okF = false) ∧ (okF fs[k] = true → (fs.take (k + 1)).all okF = true) := by
  refine ⟨fun h1 => ?_, fun h1 => ?_⟩
  · rw [Bool.eq_false_iff]
    intro h2
    have := List.all_eq_true.1 h2 fs[k] (List.getElem_mem hk)
    rw [h1] at this; cases this
  · rw [List.take_succ_eq_append_getElem hk, List.all_append, h]
    simp [h1]
set_option maxHeartbeats 1000000 in
theorem mayBe_any (fs : List Int) (v : Value) (limit : Int) (w : World) (hv : Row encZ 1 w v fs) :
    Calls Tryz.prog 137 #[v, .int .i64 limit] w fun e w' => e = .returned (.bool (mayB fs limit)) ∧ w' = w := by
  have hlen := hv.len
  obtain ⟨p, c, rfl, -, -, hrow⟩ := hv
  have Hrow := Lib.hid hrow
  obtain ⟨bb, hbb⟩ : ∃ bb, mayB fs limit = bb := ⟨_, rfl⟩
  rw [hbb]
  have Hbb := Lib.hid hbb
  clear hrow hbb
  by_cases hok : 1 ≤ limit ∧ limit ≤ 15 ∧ fs.length ≤ 320
  · obtain ⟨h1, h2, h3⟩ := hok
    have e1 : ¬ limit < 1 := by omega
    have e2 : ¬ 15 < limit := by omega
    have e3 : ¬ (320 : Int) < fs.length := by omega
    go_enter Tryz.func137, Tryz.ntmps137
    go_wp2
    go_loop [20] (fun kv => ∃ (k : Nat), kv = .int .i64 (k : Int) ∧ k ≤ fs.length ∧ Hid ((fs.take k).all okF = true)) (fun kv => fs.length - (intOf kv).toNat)
    case atStart => exact ⟨0, rfl, Nat.zero_le _, Lib.hid (by simp)⟩
    case round =>
      obtain ⟨k, rfl, hk, Hk⟩ := hrel
      by_cases hlt : k < fs.length
      · obtain ⟨g, off, rfl, hcell⟩ := Hrow.out.int hlt
        have Hat := Lib.hid (all_at hlt Hk.out)
        obtain ⟨x, hx⟩ : ∃ x, fs[k] = x := ⟨_, rfl⟩
        rw [hx] at hcell Hat
        have k0 : (0 : Int) ≤ (k : Int) := by omega
        have k1 : (k : Int) < (fs.length : Int) := by omega
        clear hx
        by_cases hx1 : x < 0
        · have hf : bb = false := by
            rw [← Hbb.out]
            unfold mayB
            rw [Hat.out.1 (by unfold okF; simp; omega)]
            simp
          go_wp2
          go_ret
          exact ⟨rfl, rfl⟩
        · by_cases hx2 : 1099511627776 < x
          · have hf : bb = false := by
              rw [← Hbb.out]
              unfold mayB
              rw [Hat.out.1 (by unfold okF; simp; omega)]
              simp
            go_wp2
            go_ret
            exact ⟨rfl, rfl⟩
          · have Hk2 := Lib.hid (Hat.out.2 (by unfold okF; simp; omega))
            go_wp2
            go_round
            case rel => exact ⟨k + 1, by go_num, by omega, Hk2⟩
            case measure => simp [intOf]; omega
      · obtain rfl : k = fs.length := by omega
        have hf : bb = true := by
          rw [← Hbb.out]
          unfold mayB
          have := Hk.out
          rw [List.take_length] at this
          rw [this]
          simp; omega
        go_wp2
        go_ret
        exact ⟨rfl, rfl⟩
  · have hf : bb = false := by
      rw [← Hbb.out]
      unfold mayB
      simp [hok]
    clear Hbb
    subst hf
    by_cases e1 : limit < 1
    · go_enter Tryz.func137, Tryz.ntmps137
      go_wp2
      go_ret
      exact ⟨rfl, rfl⟩
    · by_cases e2 : 15 < limit
      · go_enter Tryz.func137, Tryz.ntmps137
        go_wp2
        go_ret
        exact ⟨rfl, rfl⟩
      · have e3 : (320 : Int) < fs.length := by omega
        go_enter Tryz.func137, Tryz.ntmps137
        go_wp2
        go_ret
        exact ⟨rfl, rfl⟩
def fq (fs : List Int) (i : Nat) : Nat := (fs.getD i 0).toNat
def leaves (f : Nat → Nat) : Nat → List Tr
  | 0 => []
  | k + 1 => leaves f k ++ (if 0 < f k then [.leaf k (f k)] else [])
def syms (f : Nat → Nat) : Nat → List Nat
  | 0 => []
  | k + 1 => syms f k ++ (if 0 < f k then [k] else [])
theorem Lv.snoc {s c : Nat} : ∀ {ls : List Tr} {ss : List Nat}, Lv ls ss → Lv (ls ++ [.leaf s c]) (ss ++ [s])
  | [], [], _ => ⟨rfl, trivial⟩
  | .leaf _ _ :: _, _ :: _, ⟨h1, h2⟩ => ⟨h1, Lv.snoc h2⟩
  | [], _ :: _, h => h.elim
  | .leaf _ _ :: _, [], h => h.elim
  | .node _ _ :: _, _, h => by cases h
theorem leaves_lv (f : Nat → Nat) : ∀ k, Lv (leaves f k) (syms f k)
  | 0 => trivial
  | k + 1 => by
    unfold leaves syms
    by_cases h : 0 < f k
    · rw [if_pos h, if_pos h]; exact (leaves_lv f k).snoc
    · rw [if_neg h, if_neg h, List.append_nil, List.append_nil]; exact leaves_lv f k
theorem syms_mem (f : Nat → Nat) : ∀ k, ∀ i ∈ syms f k, i < k ∧ 0 < f i
  | 0, i, h => by cases h
  | k + 1, i, h => by
    unfold syms at h
    rcases List.mem_append.1 h with h | h
    · have := syms_mem f k i h
      exact ⟨by omega, this.2⟩
    · by_cases h0 : 0 < f k
      · rw [if_pos h0] at h
        obtain rfl : i = k := by simpa using h
        exact ⟨by omega, h0⟩
      · rw [if_neg h0] at h; cases h
theorem syms_up (f : Nat → Nat) : ∀ k, (syms f k).Pairwise (· < ·)
  | 0 => List.Pairwise.nil
  | k + 1 => by
    unfold syms
    rw [List.pairwise_append]
    refine ⟨syms_up f k, ?_, fun a ha b hb => ?_⟩
    · by_cases h : 0 < f k <;> simp [h]
    · have h1 := (syms_mem f k a ha).1
      by_cases h0 : 0 < f k
      · rw [if_pos h0] at hb
        obtain rfl : b = k := by simpa using hb
        exact h1
      · rw [if_neg h0] at hb; cases hb
theorem leaves_fits (f : Nat → Nat) : ∀ k, ∀ t ∈ leaves f k, t.Fits k f ∧ ¬ t.isNode ∧ ∃ s, s < k ∧ t = .leaf s (f s)
  | 0, t, h => by cases h
  | k + 1, t, h => by
    unfold leaves at h
    rcases List.mem_append.1 h with h | h
    · obtain ⟨_, _, s, hs, rfl⟩ := leaves_fits f k t h
      exact ⟨⟨by omega, rfl⟩, (fun h => h), s, by omega, rfl⟩
    · by_cases h0 : 0 < f k
      · rw [if_pos h0] at h
        obtain rfl : t = .leaf k (f k) := by simpa using h
        exact ⟨⟨by omega, rfl⟩, (fun h => h), k, by omega, rfl⟩
      · rw [if_neg h0] at h; cases h
theorem leaves_cost (f : Nat → Nat) : ∀ k, (leaves f k).map Tr.cost = ((List.range k).map f).filter fun c => decide (0 < c)
  | 0 => rfl
  | k + 1 => by
    unfold leaves
    rw [List.map_append, leaves_cost f k, List.range_succ, List.map_append, List.filter_append]
    congr 1
    by_cases h : 0 < f k <;> simp [h, Tr.cost]
theorem leaves_len (f : Nat → Nat) (k : Nat) : (leaves f k).length = many k f := by
  have := congrArg List.length (leaves_cost f k)
  rw [List.length_map, coins_len] at this
  exact this
end Go.Proofs.YtoladolgmeanhaaGreat

/- huff's singles and count. -/
namespace Go.Proofs.YtoladolgmeanhaaGreat
open Go.RowKit

structure SgInv (N : Nat → Prop) (f : Nat → Nat) (w wr : World) (k : Nat) (v : Value) (l : List (Nat × Tr)) : Prop where
  eq : l.map Prod.snd = leaves f k
  own : wr.ownsRow w.heap.size 202 1 v l.length ((l.map Prod.fst).map ptrV)
  at' : ∀ e ∈ l, TrAt wr (fun i => N i ∧ w.heap.size ≤ i ∧ v.ownBlock ≠ some i) e.1 e.2
  below : Below w.heap.size w wr
theorem fq_at {fs : List Int} {k : Nat} (hk : k < fs.length) (h0 : 0 ≤ fs[k]) : fs[k] = ((fq fs k : Nat) : Int) := by
  unfold fq
  rw [List.getD_eq_getElem?_getD, List.getElem?_eq_getElem hk]
  simp; omega
set_option maxHeartbeats 1000000 in
theorem singles_any (N : Nat → Prop) (fs : List Int) (v : Value) (w : World) (hN : ∀ i, w.heap.size ≤ i → N i) (hv : Row encZ 1 w v fs) (hlen : fs.length ≤ 320) (hpos : ∀ f ∈ fs, 0 ≤ f) :
    Calls Tryz.prog 138 #[v] w fun e w' => ∃ (v' : Value) (l : List (Nat × Tr)), e = .returned v' ∧ SgInv N (fq fs) w w' fs.length v' l := by
  obtain ⟨p, c, rfl, -, -, hrow⟩ := hv
  have Hrow := Lib.hid hrow
  have Hpos := Lib.hid hpos
  have HN := Lib.hid hN
  clear hrow hpos hN
  go_enter Tryz.func138, Tryz.ntmps138
  go_wp2
  go_loopw [3, 8] (fun v kv wr => ∃ (k : Nat) (l : List (Nat × Tr)), kv = .int .i64 (k : Int) ∧ k ≤ fs.length ∧ Hid (SgInv N (fq fs) w wr k v l)) (fun _ kv _ => fs.length - (intOf kv).toNat)
  case atStart => exact ⟨0, [], rfl, Nat.zero_le _, Lib.hid ⟨rfl, World.ownsRow_nil _ _ _ _, (fun e he => by cases he), Below.refl _ _⟩⟩
  case round =>
    obtain ⟨k, l, rfl, hk, HI⟩ := hrel
    obtain ⟨pv, cv, rfl⟩ := owns_slice HI.out.own
    by_cases hlt : k < fs.length
    · obtain ⟨g, off, rfl, hcell⟩ := Hrow.out.int hlt
      have hcell2 := cell_later HI.out.below hcell
      have Hfk := Lib.hid (fq_at hlt (Hpos.out _ (List.getElem_mem hlt)))
      rw [Hfk.out] at hcell2
      obtain ⟨x, hx⟩ : ∃ x, fq fs k = x := ⟨_, rfl⟩
      rw [hx] at hcell2
      have Hx := Lib.hid hx
      have k0 : (0 : Int) ≤ (k : Int) := by omega
      have k1 : (k : Int) < (fs.length : Int) := by omega
      clear hx hcell
      by_cases hx0 : 0 < x
      · have d0 : decide (0 < x) = true := by simpa using hx0
        have hll : l.length ≤ 320 := by
          have h1 := congrArg List.length HI.out.eq
          rw [List.length_map, leaves_len] at h1
          have h2 : many k (fq fs) ≤ k := by
            unfold many
            have := sm_le (n := k) (g := fun i => if 0 < fq fs i then 1 else 0) (h := fun _ => 1) (fun i _ => by split <;> omega)
            have h3 : ∀ m, sm m (fun _ => 1) = m := fun m => by
              induction m with
              | zero => rfl
              | succ m ih => rw [sm, ih]
            rw [h3] at this
            exact this
          omega
        have hs := HI.out.below.size
        have Hown2 : Hid ((wr.alloc (.cells #[.int .i64 (x : Int), .int .i64 (k : Int), .slice none 0 0] 201)).ownsRow w.heap.size 202 1 (.slice pv l.length cv) l.length ((l.map Prod.fst).map ptrV)) := Lib.hid (HI.out.own.alloc _)
        have hs2 : w.heap.size ≤ (wr.alloc (.cells #[.int .i64 (x : Int), .int .i64 (k : Int), .slice none 0 0] 201)).heap.size := by simp; omega
        go_wp2_with (at_builtin; refine wpList_append_one _ rfl (.tmp 15) (.tmp 20) 198 rfl w.heap.size 202 _ 8 ptr_info Tryz.underlying198 rfl (.slice pv l.length cv) l.length ((l.map Prod.fst).map ptrV) rfl Hown2.out (ptrV wr.heap.size) _ ?n1 rfl ?n3 ?n4 hs2 ?_)
        case n1 => rw [World.size_alloc]; rfl
        case n3 => simp only [maxLen]; omega
        case n4 => omega
        intro g5 cap5 w5 hown5 ht5 hpl5
        have HI5 : Hid (SgInv N (fq fs) w w5 (k + 1) (.slice (some ⟨g5, 0, none⟩) (l.length + 1) cap5) (l ++ [(wr.heap.size, .leaf k x)])) := Lib.hid (by
          have hx' : 0 < fq fs k := by rw [Hx.out]; exact hx0
          have hlt' := HI.out.own.lt
          have hno : ∀ i, i < wr.heap.size + 1 → (Value.slice pv l.length cv).ownBlock ≠ some i → g5 ≠ i := fun i h1 h2 e => by
            rcases hpl5 with h | h
            · exact h2 (e ▸ h)
            · omega
          refine ⟨?_, ?_, fun e he => ?_, ?_⟩
          · rw [List.map_append, HI.out.eq]
            conv => rhs; unfold leaves
            rw [if_pos hx', Hx.out]; rfl
          · rw [List.length_append, List.map_append, List.map_append, List.map_map]; exact hown5
          · rcases List.mem_append.1 he with he | he
            · exact (HI.out.at' e he).keep (fun i hi hn => ⟨(ht5.block i (by simp; omega) hn.2.2).trans (Below.heap_alloc wr _ i hi), hn.1, hn.2.1, fun e => hno i (by omega) hn.2.2 (by cases e; rfl)⟩)
            · obtain rfl : e = (wr.heap.size, .leaf k x) := by simpa using he
              have hn0 : (Value.slice pv l.length cv).ownBlock ≠ some wr.heap.size := fun e => by have := (hlt' _ e).2; omega
              unfold TrAt
              exact ⟨⟨HN.out _ hs, hs, fun e => hno wr.heap.size (by omega) hn0 (by cases e; rfl)⟩, (ht5.block wr.heap.size (by simp) hn0).trans (World.alloc_heap_new _ _)⟩
          · exact HI.out.below.trans (((Below.al1 wr _).mono hs).trans (ht5.below (by simp; omega) (fun i e => (hlt' i e).1))))
        clear hown5 ht5 hpl5 hs2 hs
        go_wp2
        go_roundw
        case rel => exact ⟨k + 1, _, by go_num, by omega, HI5⟩
        case measure => simp [intOf]; omega
      · have d0 : decide (0 < x) = false := by simpa using hx0
        have HI5 : Hid (SgInv N (fq fs) w wr (k + 1) (.slice pv l.length cv) l) := Lib.hid ⟨by
          rw [HI.out.eq]
          conv => rhs; unfold leaves
          rw [Hx.out, if_neg hx0, List.append_nil], HI.out.own, HI.out.at', HI.out.below⟩
        go_wp2
        go_roundw
        case rel => exact ⟨k + 1, l, by go_num, by omega, HI5⟩
        case measure => simp [intOf]; omega
    · obtain rfl : k = fs.length := by omega
      go_wp2
      go_ret
      exact ⟨_, l, rfl, HI.out⟩
end Go.Proofs.YtoladolgmeanhaaGreat
