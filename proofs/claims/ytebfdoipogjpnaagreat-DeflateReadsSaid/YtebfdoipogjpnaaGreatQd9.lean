/- Several texts in one, each with its own head. -/
import Derived.Test.YtebfdoipogjpnaaGreatQd8
/- huff's pairs: parcels bound two by two, those that cost least first. -/
namespace Go.Proofs.YtebfdoipogjpnaaGreat
open Go.RowKit

/-- Block r is a pair of two parcels. -/
def NodeAt (w : World) (N : Nat → Prop) (r : Nat) (a b : Nat × Nat) : Prop :=
  ∃ g, N r ∧ N g ∧ w.heap[r]? = some (.cells #[.int .i64 ((a.2 : Int) + (b.2 : Int)), .int .i64 0, .slice (some ⟨g, 0, none⟩) 2 2] 215) ∧ w.heap[g]? = some (.cells #[ptrV a.1, ptrV b.1] 216)

def Nodes (w : World) (N : Nat → Prop) : List (Nat × Nat) → List Nat → Prop
  | [], [] => True
  | a :: b :: P, r :: rs => NodeAt w N r a b ∧ Nodes w N P rs
  | _, _ => False

theorem lt_heap {w : World} {i : Nat} {o : Obj} (h : w.heap[i]? = some o) : i < w.heap.size := (Array.getElem?_eq_some_iff.1 h).1

theorem NodeAt.keep {w w' : World} {N N' : Nat → Prop} {r : Nat} {a b : Nat × Nat} (h : NodeAt w N r a b) (hk : ∀ i, i < w.heap.size → N i → w'.heap[i]? = w.heap[i]? ∧ N' i) : NodeAt w' N' r a b := by
  obtain ⟨g, h1, h2, h3, h4⟩ := h
  have k1 := hk r (lt_heap h3) h1
  have k2 := hk g (lt_heap h4) h2
  exact ⟨g, k1.2, k2.2, k1.1.trans h3, k2.1.trans h4⟩

theorem Nodes.keep {w w' : World} {N N' : Nat → Prop} (hk : ∀ i, i < w.heap.size → N i → w'.heap[i]? = w.heap[i]? ∧ N' i) : ∀ {P : List (Nat × Nat)} {rs : List Nat}, Nodes w N P rs → Nodes w' N' P rs
  | [], [], _ => trivial
  | _ :: _ :: _, _ :: _, ⟨h1, h2⟩ => ⟨h1.keep hk, Nodes.keep hk h2⟩
  | [], _ :: _, h => h.elim
  | [_], _, h => by cases ‹List Nat› <;> exact h.elim
  | _ :: _ :: _, [], h => h.elim

theorem Nodes.snoc {w : World} {N : Nat → Prop} {r : Nat} {a b : Nat × Nat} (hn : NodeAt w N r a b) : ∀ {P : List (Nat × Nat)} {rs : List Nat}, Nodes w N P rs → Nodes w N (P ++ [a, b]) (rs ++ [r])
  | [], [], _ => ⟨hn, trivial⟩
  | _ :: _ :: _, _ :: _, ⟨h1, h2⟩ => ⟨h1, Nodes.snoc hn h2⟩
  | [], _ :: _, h => h.elim
  | [_], _, h => by cases ‹List Nat› <;> exact h.elim
  | _ :: _ :: _, [], h => h.elim

theorem Heap.slice {w : World} {base B : Nat} {sv : Value} {E : List (Nat × Nat)} (h : Heap w base B sv E) : ∃ p c, sv = .slice p E.length c := by
  obtain ⟨F, h1, -, h3⟩ := h
  rw [← h1.length_eq]
  exact owns_slice h3.own
theorem Heap.c0 {w : World} {base B : Nat} {sv : Value} {E : List (Nat × Nat)} (h : Heap w base B sv E) : w.cell? ⟨B, 0, none⟩ = some sv := by
  obtain ⟨F, -, -, h3⟩ := h
  exact h3.c0
theorem Heap.own {w : World} {base B : Nat} {sv : Value} {E : List (Nat × Nat)} (h : Heap w base B sv E) : ∀ k, sv.ownBlock = some k → base ≤ k ∧ k < w.heap.size := by
  obtain ⟨F, -, -, h3⟩ := h
  exact h3.own.lt
theorem Heap.lt {w : World} {base B : Nat} {sv : Value} {E : List (Nat × Nat)} (h : Heap w base B sv E) : B < base ∧ B < w.heap.size := by
  obtain ⟨F, -, -, h3⟩ := h
  exact ⟨h3.lt, h3.size⟩

theorem hq_news_at (w : World) (t : TypeId) (cs : List Value) (n : Nat) (hn : n = w.heap.size) : ∀ j u, cs[j]? = some u → (w.alloc (.cells cs.toArray t)).drew.cell? ((⟨n, 0, none⟩ : Addr).add j) = some u := by
  subst hn; exact hq_news w t cs

theorem hq_base {W : World} {base base' : Nat} {e : TypeId} {size : Nat} {v : Value} {n : Nat} {xs : List Value} (h : W.ownsRow base e size v n xs) (hb : base' ≤ base) : W.ownsRow base' e size v n xs := by
  refine ⟨h.1, ?_⟩
  rcases h.2 with h0 | ⟨g, cap, cur, h1, h2, h3⟩
  · exact .inl h0
  · exact .inr ⟨g, cap, cur, h1, by omega, h3⟩

def lenP : Value → Nat
  | .slice _ n _ => n
  | _ => 0

/-- What the loop of pairs holds. -/
structure PairInv (w wr : World) (base B : Nat) (L : List (Nat × Nat)) (v sv : Value) (E P : List (Nat × Nat)) (rs : List Nat) : Prop where
  heap : Heap wr base B sv E
  perm : (P ++ E).Perm L
  up : P.Pairwise fun a b => a.2 ≤ b.2
  le : ∀ p ∈ P, ∀ e ∈ E, p.2 ≤ e.2
  even : P.length = 2 * rs.length
  own : wr.ownsRow base 216 1 v rs.length (rs.map ptrV)
  nodes : Nodes wr (fun i => base ≤ i ∧ sv.ownBlock ≠ some i ∧ v.ownBlock ≠ some i) P rs
  apart : ∀ k, v.ownBlock = some k → sv.ownBlock ≠ some k
  below : Below w.heap.size w wr

/-- .. when two have been taken that are not bound yet. -/
structure PairMid (w wr : World) (base B : Nat) (L : List (Nat × Nat)) (v sv : Value) (E P : List (Nat × Nat)) (rs : List Nat) (x y : Nat × Nat) : Prop where
  heap : Heap wr base B sv E
  perm : (P ++ [x, y] ++ E).Perm L
  up : (P ++ [x, y]).Pairwise fun a b => a.2 ≤ b.2
  le : ∀ p ∈ P ++ [x, y], ∀ e ∈ E, p.2 ≤ e.2
  even : P.length = 2 * rs.length
  own : wr.ownsRow base 216 1 v rs.length (rs.map ptrV)
  nodes : Nodes wr (fun i => base ≤ i ∧ sv.ownBlock ≠ some i ∧ v.ownBlock ≠ some i) P rs
  apart : ∀ k, v.ownBlock = some k → sv.ownBlock ≠ some k
  below : Below w.heap.size w wr

theorem PairInv.mid {w wr w1 w2 : World} {B : Nat} {L : List (Nat × Nat)} {v sv sv1 : Value} {E E1 E2 P : List (Nat × Nat)} {rs : List Nat} {x y : Nat × Nat} (h : PairInv w wr (w.heap.size + 1) B L v sv E P rs) (hB : B = w.heap.size) (hx : (x :: E1).Perm E) (hx2 : ∀ z ∈ E1, x.2 ≤ z.2) (hy : (y :: E2).Perm E1) (hy2 : ∀ z ∈ E2, y.2 ≤ z.2)
    (ht1 : Turns (fun b => b = B ∨ sv.ownBlock = some b) wr w1) (hs1 : ∀ k, sv1.ownBlock = some k → sv.ownBlock = some k ∨ wr.heap.size ≤ k) (k : HeapTo (w.heap.size + 1) B sv1 E2 w1 w2) : ∃ sv2, PairMid w w2 (w.heap.size + 1) B L v sv2 E2 P rs x y := by
  obtain ⟨sv2, k1, k2, k3⟩ := HeapTo.step ht1 hs1 k
  have hown := h.heap.own
  have hn : ∀ i, w.heap.size + 1 ≤ i → i < wr.heap.size → sv.ownBlock ≠ some i → w2.heap[i]? = wr.heap[i]? ∧ sv2.ownBlock ≠ some i := fun i h1 h2 h3 => ⟨k2.block i h2 (fun e => by
    rcases e with e | e
    · omega
    · exact h3 e), fun e => by
    rcases k3 i e with e | e
    · exact h3 e
    · omega⟩
  have hmemE : ∀ z ∈ E1, z ∈ E := fun z hz => hx.mem_iff.1 (List.mem_cons_of_mem _ hz)
  have hyE1 : y ∈ E1 := hy.mem_iff.1 (List.mem_cons_self ..)
  refine ⟨sv2, k1, ?_, ?_, ?_, h.even, ?_, ?_, ?_, ?_⟩
  · refine List.Perm.trans ?_ h.perm
    rw [List.append_assoc]
    exact (((hy.cons x).trans hx)).append_left P
  · rw [List.pairwise_append]
    refine ⟨h.up, ?_, fun p hp q hq => ?_⟩
    · refine List.pairwise_cons.2 ⟨fun q hq => ?_, List.pairwise_cons.2 ⟨(fun q hq => by cases hq), List.Pairwise.nil⟩⟩
      obtain rfl : q = y := by simpa using hq
      exact hx2 _ hyE1
    · refine h.le p hp q ?_
      rcases List.mem_cons.1 hq with rfl | hq
      · exact hx.mem_iff.1 (List.mem_cons_self ..)
      · obtain rfl : q = y := by simpa using hq
        exact hmemE _ hyE1
  · intro p hp e he
    have heE1 : e ∈ E1 := hy.mem_iff.1 (List.mem_cons_of_mem _ he)
    rcases List.mem_append.1 hp with hp | hp
    · exact h.le p hp e (hmemE e heE1)
    · rcases List.mem_cons.1 hp with rfl | hp
      · exact hx2 e heE1
      · obtain rfl : p = y := by simpa using hp
        exact hy2 e he
  · exact k2.owns h.own (fun i hi e => by
      have := h.own.lt i hi
      rcases e with e | e
      · omega
      · exact h.apart i hi e)
  · exact h.nodes.keep (fun i hi hN => by
      obtain ⟨q1, q2⟩ := hn i hN.1 hi hN.2.1
      exact ⟨q1, hN.1, q2, hN.2.2⟩)
  · intro k hk
    have := h.own.lt k hk
    exact (hn k this.1 this.2 (h.apart k hk)).2
  · exact h.below.trans (k2.below h.below.size (fun i e => by
      rcases e with e | e
      · omega
      · have := hown i e; omega))

theorem PairMid.bound {w w5 w6 : World} {B : Nat} {L : List (Nat × Nat)} {pv : Option Addr} {cv g5 cap5 : Nat} {sv : Value} {E P : List (Nat × Nat)} {rs : List Nat} {x y : Nat × Nat} (h : PairMid w w5 (w.heap.size + 1) B L (.slice pv rs.length cv) sv E P rs x y) (hB : B = w.heap.size) (hL : ∀ e ∈ L, e.1 < w.heap.size) (hsz : w.heap.size + 1 ≤ w5.heap.size)
    (ho : w6.ownsRow (w.heap.size + 1) 216 1 (.slice (some ⟨g5, 0, none⟩) (rs.length + 1) cap5) (rs.length + 1) (rs.map ptrV ++ [ptrV (w5.heap.size + 1)]))
    (hg : (((w5.alloc (.cells #[ptrV x.1, ptrV y.1] 216)).alloc (.cells #[.int .i64 ((x.2 : Int) + (y.2 : Int)), .int .i64 0, .slice (some ⟨w5.heap.size, 0, none⟩) 2 2] 215)).alloc (.cells #[ptrV (w5.heap.size + 1)] 216)).drew.grownBy w6 (Value.slice pv rs.length cv).ownBlock)
    (hpl : (Value.slice pv rs.length cv).ownBlock = some g5 ∨ g5 = w5.heap.size + 3) :
    PairInv w w6 (w.heap.size + 1) B L (.slice (some ⟨g5, 0, none⟩) (rs.length + 1) cap5) sv E (P ++ [x, y]) (rs ++ [w5.heap.size + 1]) := by
  have hb3 : Below w5.heap.size w5 (((w5.alloc (.cells #[ptrV x.1, ptrV y.1] 216)).alloc (.cells #[.int .i64 ((x.2 : Int) + (y.2 : Int)), .int .i64 0, .slice (some ⟨w5.heap.size, 0, none⟩) 2 2] 215)).alloc (.cells #[ptrV (w5.heap.size + 1)] 216)).drew := (Below.al3 w5 _ _ _).drew
  have hg0 := Turns.of_grown (T := fun i => (Value.slice pv rs.length cv).ownBlock = some i) hg (fun _ h => h)
  have hlt := fun k hk => h.own.lt k hk
  have ht : Turns (fun i => (Value.slice pv rs.length cv).ownBlock = some i) w5 w6 := (Turns.of_below' (T := fun i => (Value.slice pv rs.length cv).ownBlock = some i) hb3).trans hg0
  have hg5 : ∀ i, i < w5.heap.size + 3 → (Value.slice pv rs.length cv).ownBlock ≠ some i → (Value.slice (some ⟨g5, 0, none⟩) (rs.length + 1) cap5).ownBlock ≠ some i := fun i h1 h2 e => by
    cases e
    rcases hpl with h | h
    · exact h2 h
    · have h1' : g5 < w5.heap.size + 3 := h1
      omega
  have e0 : w6.heap[w5.heap.size]? = some (.cells #[ptrV x.1, ptrV y.1] 216) := by
    refine (hg0.block w5.heap.size (by simp; omega) (fun e => by have := (hlt _ e).2; omega)).trans ?_
    exact (heap_pushed [.cells #[ptrV x.1, ptrV y.1] 216, .cells #[.int .i64 ((x.2 : Int) + (y.2 : Int)), .int .i64 0, .slice (some ⟨w5.heap.size, 0, none⟩) 2 2] 215, .cells #[ptrV (w5.heap.size + 1)] 216] w5 0 _).2 rfl
  have e1 : w6.heap[w5.heap.size + 1]? = some (.cells #[.int .i64 ((x.2 : Int) + (y.2 : Int)), .int .i64 0, .slice (some ⟨w5.heap.size, 0, none⟩) 2 2] 215) := by
    refine (hg0.block (w5.heap.size + 1) (by simp) (fun e => by have := (hlt _ e).2; omega)).trans ?_
    exact (heap_pushed [.cells #[ptrV x.1, ptrV y.1] 216, .cells #[.int .i64 ((x.2 : Int) + (y.2 : Int)), .int .i64 0, .slice (some ⟨w5.heap.size, 0, none⟩) 2 2] 215, .cells #[ptrV (w5.heap.size + 1)] 216] w5 1 _).2 rfl
  have hso := h.heap.own
  have hvn : ∀ i, w5.heap.size ≤ i → (Value.slice pv rs.length cv).ownBlock ≠ some i := fun i hi e => by have := (hlt i e).2; omega
  have hsn : ∀ i, w5.heap.size ≤ i → sv.ownBlock ≠ some i := fun i hi e => by have := (hso i e).2; omega
  refine ⟨?_, h.perm, h.up, h.le, ?_, ?_, ?_, ?_, ?_⟩
  · obtain ⟨F, f1, f2, f3⟩ := h.heap
    refine ⟨F, f1, f2, f3.lt, (ht.block B f3.size (fun e => by have := (hlt _ e).1; omega)).trans f3.box, ht.owns f3.own (fun k hk e => h.apart k e hk), fun e he => ?_⟩
    obtain ⟨k1, k2, k3⟩ := f3.keys e he
    refine ⟨k1, k2, ?_⟩
    refine ht.cell k3 (fun hv => ?_)
    have h1 := (hlt _ hv).1
    have h2 := hL e (h.perm.mem_iff.1 (List.mem_append_right _ (f1.mem_iff.1 he)))
    simp only at h1
    omega
  · rw [List.length_append, List.length_append, h.even]
    simp
    omega
  · rw [List.length_append, List.map_append]
    exact ho
  · refine Nodes.snoc ⟨w5.heap.size, ⟨by omega, hsn _ (by omega), hg5 _ (by omega) (hvn _ (by omega))⟩, ⟨by omega, hsn _ (by omega), hg5 _ (by omega) (hvn _ (by omega))⟩, e1, e0⟩ (h.nodes.keep (fun i hi hN => ⟨ht.block i hi hN.2.2, hN.1, hN.2.1, hg5 i (by omega) hN.2.2⟩))
  · intro k hk e
    rcases hpl with hp | hp
    · cases hk
      exact h.apart _ hp e
    · cases hk
      exact hsn _ (by simp only; omega) e
  · exact h.below.trans (ht.below h.below.size (fun i e => by have := (hlt i e).1; omega))

set_option maxRecDepth 100000 in
set_option maxHeartbeats 4000000 in
theorem pairs_core (l b : List (Nat × Nat)) (vl vb : Value) (w : World) (hvl : Row encP 1 w vl (l.map Prod.fst)) (hvb : Row encP 1 w vb (b.map Prod.fst))
    (hl : ∀ e ∈ l ++ b, w.cell? ⟨e.1, 0, none⟩ = some (.int .i64 (e.2 : Int)) ∧ e.2 ≤ 1152921504606846976) (hlen : (l ++ b).length ≤ 65536) :
    Calls Tryz.prog 202 #[vl, vb] w fun e w' => ∃ v P E rs, e = .returned v ∧ (P ++ E).Perm (l ++ b) ∧ P.Pairwise (fun a b => a.2 ≤ b.2) ∧ (∀ p ∈ P, ∀ e ∈ E, p.2 ≤ e.2) ∧ P.length = 2 * rs.length ∧ E.length ≤ 1 ∧
      w'.ownsRow w.heap.size 216 1 v rs.length (rs.map ptrV) ∧ Nodes w' (fun i => w.heap.size ≤ i) P rs ∧ Below w.heap.size w w' := by
  obtain ⟨i0, hi0, hz0, hz1, hz2⟩ := info_parts ptr_info
  have Hl := Lib.hid hl
  have hll : ∀ e ∈ l ++ b, e.1 < w.heap.size := fun e he => World.block_lt_of_cell? _ _ (hl e he).1
  have hq1 : Heap (w.alloc (.cells #[.slice none 0 0] 279)) (w.heap.size + 1) w.heap.size (.slice none 0 0) [] :=
    ⟨[], List.Perm.refl _, fun k h0 hk => by simp at hk, by omega, by rw [World.alloc_heap_new], World.ownsRow_nil _ _ _ _, fun e he => by cases he⟩
  have hbw := Below.al1 w (.cells #[.slice none 0 0] 279)
  have hblk : ∀ v : Value, ∀ xs : List Nat, Row encP 1 w v xs → ∀ k, v.ownBlock = some k → k < w.heap.size := fun v xs hv k hk => by
    obtain ⟨p, c, rfl, h1, h2, h3⟩ := hv
    rcases h3 with ⟨rfl, -⟩ | ⟨bb, off, rfl, hbb, -⟩
    · cases hk
    · cases hk; exact hbb
  have Hq1 := Lib.hid hq1
  have Hbw := Lib.hid hbw
  have Hvl := Lib.hid (And.intro (hvl.below hbw) (hblk _ _ hvl))
  have Hvb := Lib.hid (And.intro (hvb.below hbw) (hblk _ _ hvb))
  have Hll := Lib.hid hll
  obtain ⟨pl, cl, rfl, -, -, -⟩ := hvl
  obtain ⟨pb, cb, rfl, -, -, -⟩ := hvb
  rw [List.length_append] at hlen
  rw [List.length_map] at Hvl Hvb
  rw [List.length_map, List.length_map]
  clear hl hll hq1 hbw hblk
  go_enter Tryz.func202, Tryz.ntmps202
  go_wp2_with fail
  refine Calls.mono (put_any (w.heap.size + 1) w.heap.size _ [] l _ _ Hq1.out Hvl.out.1 (fun k hk => ⟨by have := Hvl.out.2 k hk; omega, fun e => by cases e⟩) (fun e he => ⟨by have := Hll.out e (List.mem_append_left _ he); omega, (fun h => by cases h), cell_later Hbw.out (Hl.out e (List.mem_append_left _ he)).1⟩) (by simp; omega) (by simp)) ?_
  rintro e w1 ⟨rfl, sv1, hp1, ht1, hs1⟩
  rw [List.nil_append] at hp1
  have hown1 := hp1.own
  have hb01 : Below w.heap.size w w1 := Hbw.out.trans (ht1.below (by simp) (fun i hi => by
    rcases hi with hi | hi
    · omega
    · cases hi))
  have Hp1 := Lib.hid hp1
  have H01 := Lib.hid hb01
  have Hs1 := Lib.hid hown1
  have Hvb1 : Hid (Row encP 1 w1 (.slice pb b.length cb) (b.map Prod.fst)) := Lib.hid (Hvb.out.1.same (fun k hk => ht1.block k (by have := Hvb.out.2 k hk; simp; omega) (fun h => by
    rcases h with h | h
    · have := Hvb.out.2 k hk; omega
    · cases h)))
  have hbs1 : w.heap.size + 1 ≤ w1.heap.size := Nat.le_trans (by simp) ht1.size
  clear hp1 ht1 hs1 hown1 hb01
  go_wp2_with fail
  refine Calls.mono (put_any (w.heap.size + 1) w.heap.size sv1 l b _ _ Hp1.out Hvb1.out (fun k hk => ⟨by have := Hvb.out.2 k hk; omega, fun e => by
    have h1 := Hvb.out.2 k hk
    have h2 := Hs1.out k e
    omega⟩) (fun e he => ⟨by have := Hll.out e (List.mem_append_right _ he); omega, (fun h => by
    have h1 := Hll.out e (List.mem_append_right _ he)
    have h2 := Hs1.out _ h
    omega), cell_later H01.out (Hl.out e (List.mem_append_right _ he)).1⟩) hlen hbs1) ?_
  rintro e w2 ⟨rfl, sv2, hp2, ht2, hs2⟩
  have hb02 : Below w.heap.size w w2 := H01.out.trans (ht2.below H01.out.size (fun i hi => by
    rcases hi with hi | hi
    · omega
    · have := Hs1.out i hi; omega))
  have Hi : Hid (PairInv w w2 (w.heap.size + 1) w.heap.size (l ++ b) (.slice none 0 0) sv2 (l ++ b) [] []) := Lib.hid ⟨hp2, List.Perm.refl _, List.Pairwise.nil, (fun p hp => by cases hp), rfl, World.ownsRow_nil _ _ _ _, trivial, (fun k hk => by cases hk), hb02⟩
  have hbs2 := Nat.le_trans hbs1 ht2.size
  clear hp2 ht2 hs2 hb02 Hp1 H01 Hs1 Hvb1 hbs1 Hq1 Hbw Hvl Hvb
  go_wp2
  go_loopw [6] (fun v wr => ∃ (sv : Value) (E P : List (Nat × Nat)) (rs : List Nat), Hid (PairInv w wr (w.heap.size + 1) w.heap.size (l ++ b) v sv E P rs) ∧ Hid (w.heap.size + 1 ≤ wr.heap.size)) (fun v _ => (l ++ b).length - 2 * lenP v)
  case atStart => exact ⟨sv2, l ++ b, [], [], Hi, Lib.hid hbs2⟩
  case round =>
    obtain ⟨sv, E, P, rs, HI, Hsz⟩ := hrel
    have hc0 := HI.out.heap.c0
    obtain ⟨ps, cs, rfl⟩ := HI.out.heap.slice
    by_cases hE : 1 < E.length
    · have d1 : decide (1 < E.length) = true := by simpa using hE
      go_wp2_with fail
      refine Calls.mono (qlen_any _ _ _ _) ?_
      rintro e w3 ⟨rfl, rfl⟩
      go_wp2_with fail
      refine Calls.mono (take_any _ _ _ E w3 HI.out.heap (by omega) (by have := HI.out.perm.length_eq; simp at this; omega)) ?_
      rintro e w4 ⟨x, E1, rfl, hx1, hx2, sv1, hh1, ht1, hs1⟩
      have Hx := Lib.hid (And.intro hx1 (And.intro hx2 (And.intro ht1 hs1)))
      have Hh1 := Lib.hid hh1
      have hl1 := hx1.length_eq
      have HE1 : Hid (0 < E1.length ∧ E1.length ≤ 65536) := Lib.hid (by
        have := HI.out.perm.length_eq
        simp at this hl1
        omega)
      clear hx1 hx2 ht1 hs1 hh1 hl1 hc0
      go_wp2_with fail
      refine Calls.mono (take_any _ _ _ E1 w4 Hh1.out HE1.out.1 HE1.out.2) ?_
      rintro e w5 ⟨y, E2, rfl, hy1, hy2, hto⟩
      obtain ⟨sv2, hmid⟩ := HI.out.mid rfl Hx.out.1 Hx.out.2.1 hy1 hy2 Hx.out.2.2.1 Hx.out.2.2.2 hto
      have Hm := Lib.hid hmid
      have hbw5 := Nat.le_trans Hsz.out (Nat.le_trans Hx.out.2.2.1.size (by obtain ⟨_, _, h, _⟩ := hto; exact h.size))
      obtain ⟨hcx, hxb⟩ := Hl.out x (hmid.perm.mem_iff.1 (by simp))
      obtain ⟨hcy, hyb⟩ := Hl.out y (hmid.perm.mem_iff.1 (by simp))
      have hcx5 := cell_later hmid.below hcx
      have hcy5 := cell_later hmid.below hcy
      obtain ⟨bx, hbx⟩ : ∃ bx, x.1 = bx := ⟨_, rfl⟩
      obtain ⟨by', hby⟩ : ∃ by', y.1 = by' := ⟨_, rfl⟩
      obtain ⟨cx, hcx0⟩ : ∃ cx, x.2 = cx := ⟨_, rfl⟩
      obtain ⟨cy, hcy0⟩ : ∃ cy, y.2 = cy := ⟨_, rfl⟩
      rw [hbx, hcx0] at hcx5
      rw [hby, hcy0] at hcy5
      rw [hcx0] at hxb
      rw [hcy0] at hyb
      have Hxy := Lib.hid (And.intro hbx (And.intro hby (And.intro hcx0 hcy0)))
      obtain ⟨pv, cv, rfl⟩ := owns_slice hmid.own
      have Hown := Lib.hid hmid.own
      rw [hbx, hby]
      unfold ptrV
      clear hmid hy1 hy2 hto hcx hcy hbx hby hcx0 hcy0 HE1 Hh1 Hx
      go_upto_region 7 with (fail)
      have hrl : rs.length ≤ 65536 := by
        have h1 := Hm.out.perm.length_eq
        have h2 := Hm.out.even
        simp at h1
        omega
      have q1 := fun o => cell_later (Below.al1 w5 o) hcx5
      have q2 := fun o => cell_later (Below.al1 w5 o) hcy5
      have hw : IntKind.i64.wrap ((cx : Int) + (cy : Int)) = (cx : Int) + (cy : Int) := IntWalk.i64_in _ (by omega)
      go_region_law (refine step_append_lies _ (by rfl) (.tmp 18) (.tmp 33) 212 (by rfl) (w.heap.size + 1) 216 i0 _ 1 8 Tryz.underlying212 hi0 hz0 hz1 hz2 rfl (by decide) (.slice pv rs.length cv) rs.length (rs.map ptrV) (by rfl) (hq_drew (((Hown.out.alloc _).alloc _).alloc _)) _ 1 1 [ptrV (w5.heap.size + 1)] (by rfl) rfl (fun j u hu => hq_news_at _ _ [ptrV (w5.heap.size + 1)] _ (by simp) j u hu) (by intro u hu; simp at hu; subst hu; rfl) (by decide) (by simp only [maxLen]; omega) (by omega) (by simp; omega) (w5.heap.size + 3) (by simp) ?_; intro g5 cap5 w6 hown6 hgr6 hpl6 hlt6)
      all_goals
        have Hnext : Hid (PairInv w w6 (w.heap.size + 1) w.heap.size (l ++ b) (.slice (some ⟨g5, 0, none⟩) (rs.length + 1) cap5) sv2 E2 (P ++ [x, y]) (rs ++ [w5.heap.size + 1])) := Lib.hid (by
          obtain ⟨e1, e2, e3, e4⟩ := Hxy.out
          refine Hm.out.bound rfl Hll.out hbw5 hown6 ?_ hpl6
          rw [e1, e2, e3, e4]
          exact hgr6)
        have Hs6 : Hid (w.heap.size + 1 ≤ w6.heap.size) := Lib.hid (Nat.le_trans hbw5 (Nat.le_trans (by simp; omega) hgr6.size))
        have Hms : Hid (2 * (rs.length + 1) ≤ (l ++ b).length) := Lib.hid (by
          have h1 := Hm.out.perm.length_eq
          have h2 := Hm.out.even
          simp at h1 ⊢
          omega)
        clear hown6 hgr6 hpl6 hlt6 q1 q2 Hown hcx5 hcy5
        go_wp2
        go_roundw
        case rel => (repeat apply Exists.intro); exact ⟨⟨sv2, E2, P ++ [x, y], rs ++ [w5.heap.size + 1], Hnext, Hs6⟩, rfl⟩
        case measure =>
          have := Hms.out
          show (l ++ b).length - 2 * (rs.length + 1) < (l ++ b).length - 2 * rs.length
          omega
    · have d1 : decide (1 < E.length) = false := by simpa using hE
      go_wp2_with fail
      refine Calls.mono (qlen_any _ _ _ _) ?_
      rintro e w3 ⟨rfl, rfl⟩
      go_wp2
      go_ret
      have hown := HI.out.own
      exact ⟨_, P, E, rs, rfl, HI.out.perm, HI.out.up, HI.out.le, HI.out.even, by omega, hq_base hown (by omega), HI.out.nodes.keep (fun i _ hN => ⟨rfl, by have := hN.1; omega⟩), HI.out.below⟩

end Go.Proofs.YtebfdoipogjpnaaGreat

/- huff's parcels as trees in memory; pairs and cheapest over them. -/
namespace Go.Proofs.YtebfdoipogjpnaaGreat
open Go.RowKit

/-- Block b is this parcel; all its blocks are of N. -/
def TrAt (w : World) (N : Nat → Prop) : Nat → Tr → Prop
  | b, .leaf s c => N b ∧ w.heap[b]? = some (.cells #[.int .i64 (c : Int), .int .i64 (s : Int), .slice none 0 0] 215)
  | b, .node x y => N b ∧ ∃ g bx by', N g ∧ w.heap[b]? = some (.cells #[.int .i64 ((x.cost : Int) + (y.cost : Int)), .int .i64 0, .slice (some ⟨g, 0, none⟩) 2 2] 215) ∧
      w.heap[g]? = some (.cells #[ptrV bx, ptrV by'] 216) ∧ TrAt w N bx x ∧ TrAt w N by' y

theorem TrAt.keep {w w' : World} {N N' : Nat → Prop} (hk : ∀ i, i < w.heap.size → N i → w'.heap[i]? = w.heap[i]? ∧ N' i) : ∀ {t : Tr} {b : Nat}, TrAt w N b t → TrAt w' N' b t
  | .leaf _ _, b, h => by
    unfold TrAt at h ⊢
    have k1 := hk b (lt_heap h.2) h.1
    exact ⟨k1.2, k1.1.trans h.2⟩
  | .node _ _, b, h => by
    unfold TrAt at h ⊢
    obtain ⟨h1, g, bx, by', h2, h3, h4, h5, h6⟩ := h
    have k1 := hk b (lt_heap h3) h1
    have k2 := hk g (lt_heap h4) h2
    exact ⟨k1.2, g, bx, by', k2.2, k1.1.trans h3, k2.1.trans h4, TrAt.keep hk h5, TrAt.keep hk h6⟩

theorem TrAt.below {w w' : World} {N : Nat → Prop} {t : Tr} {b : Nat} (h : TrAt w N b t) (hb : Below w.heap.size w w') : TrAt w' N b t :=
  h.keep (fun i hi hN => ⟨hb.block i hi, hN⟩)

theorem TrAt.cost {w : World} {N : Nat → Prop} : ∀ {t : Tr} {b : Nat}, TrAt w N b t → w.cell? ⟨b, 0, none⟩ = some (.int .i64 (t.cost : Int))
  | .leaf _ _, b, h => by
    unfold TrAt at h
    simp [World.cell?, h.2, Tr.cost]
  | .node _ _, b, h => by
    unfold TrAt at h
    obtain ⟨h1, g, bx, by', h2, h3, h4, h5, h6⟩ := h
    simp [World.cell?, h3, Tr.cost]

def ckey (e : Nat × Tr) : Nat × Nat := (e.1, e.2.cost)

theorem perm_map {α β : Type} (f : α → β) {X Y : List β} (h : X.Perm Y) : ∀ {L : List α}, Y = L.map f → ∃ Z : List α, Z.Perm L ∧ Z.map f = X := by
  induction h with
  | nil =>
    intro L e
    cases L with
    | nil => exact ⟨[], List.Perm.refl _, rfl⟩
    | cons a l => cases e
  | cons x h ih =>
    intro L e
    cases L with
    | nil => cases e
    | cons a l =>
      injection e with e1 e2
      obtain ⟨Z, h1, h2⟩ := ih e2
      exact ⟨a :: Z, h1.cons a, by rw [List.map_cons, h2, e1]⟩
  | swap x y l =>
    intro L e
    match L, e with
    | [], e => cases e
    | [_], e => cases e
    | a :: b :: L, e =>
      injection e with e1 e2
      injection e2 with e2 e3
      exact ⟨b :: a :: L, List.Perm.swap a b L, by simp only [List.map_cons]; rw [← e1, ← e2, ← e3]⟩
  | trans _ _ h1 h2 =>
    intro L e
    obtain ⟨Z, z1, z2⟩ := h2 e
    obtain ⟨Z', y1, y2⟩ := h1 z2.symm
    exact ⟨Z', y1.trans z1, y2⟩

theorem nodes_trees {w : World} {N N0 : Nat → Prop} (hN : ∀ i, N0 i → N i) : ∀ {rs : List Nat} {P E : List (Nat × Nat)} {Q : List (Nat × Tr)}, Q.map ckey = P ++ E → E.length ≤ 1 → Nodes w N0 P rs → (∀ e ∈ Q, TrAt w N e.1 e.2) →
    ∃ rt : List (Nat × Tr), rt.map Prod.fst = rs ∧ rt.map Prod.snd = pairT (Q.map Prod.snd) ∧ ∀ e ∈ rt, TrAt w N e.1 e.2
  | [], [], E, Q, hQ, hE, _, _ => by
    refine ⟨[], rfl, ?_, fun e he => by cases he⟩
    have hl := congrArg List.length hQ
    simp at hl
    match Q, hl with
    | [], _ => simp [pairT]
    | [_], _ => simp [pairT]
    | _ :: _ :: _, hl => simp at hl; omega
  | r :: rs, a :: b :: P, E, Q, hQ, hE, hn, ht => by
    obtain ⟨h1, h2⟩ := hn
    match Q, hQ with
    | [], hQ => cases hQ
    | [_], hQ => simp at hQ
    | qa :: qb :: Q, hQ =>
      simp only [List.map_cons, List.cons_append, List.cons.injEq] at hQ
      obtain ⟨ea, eb, hQ⟩ := hQ
      obtain ⟨rt, r1, r2, r3⟩ := nodes_trees hN hQ hE h2 (fun e he => ht e (List.mem_cons_of_mem _ (List.mem_cons_of_mem _ he)))
      obtain ⟨g, n1, n2, n3, n4⟩ := h1
      subst ea eb
      refine ⟨(r, .node qa.2 qb.2) :: rt, by rw [List.map_cons, r1], by simp only [List.map_cons, pairT, r2], fun e he => ?_⟩
      rcases List.mem_cons.1 he with rfl | he
      · unfold TrAt
        exact ⟨hN _ n1, g, qa.1, qb.1, hN _ n2, n3, n4, ht qa (by simp), ht qb (by simp)⟩
      · exact r3 e he
  | [], [_], _, _, _, _, h, _ => h.elim
  | _ :: _, [_], _, _, _, _, h, _ => h.elim
  | [], _ :: _ :: _, _, _, _, _, h, _ => h.elim
  | _ :: _, [], _, _, _, _, h, _ => h.elim

theorem map_ckey_fst (l : List (Nat × Tr)) : (l.map ckey).map Prod.fst = l.map Prod.fst := by rw [List.map_map]; rfl
theorem map_ckey_snd (l : List (Nat × Tr)) : (l.map ckey).map Prod.snd = (l.map Prod.snd).map Tr.cost := by rw [List.map_map, List.map_map]; rfl

set_option maxHeartbeats 1000000 in
theorem pairs_any (N : Nat → Prop) (l b : List (Nat × Tr)) (vl vb : Value) (w : World) (hN : ∀ i, w.heap.size ≤ i → N i) (hvl : Row encP 1 w vl (l.map Prod.fst)) (hvb : Row encP 1 w vb (b.map Prod.fst))
    (hl : ∀ e ∈ l ++ b, TrAt w N e.1 e.2 ∧ e.2.cost ≤ 1152921504606846976) (hlen : (l ++ b).length ≤ 65536) :
    Calls Tryz.prog 202 #[vl, vb] w fun e w' => ∃ (v : Value) (Q rt : List (Nat × Tr)), e = .returned v ∧ Q.Perm (l ++ b) ∧ Up ((Q.map Prod.snd).map Tr.cost) ∧ rt.map Prod.snd = pairT (Q.map Prod.snd) ∧
      w'.ownsRow w.heap.size 216 1 v rt.length ((rt.map Prod.fst).map ptrV) ∧ (∀ e ∈ rt, TrAt w' N e.1 e.2) ∧ Below w.heap.size w w' := by
  have hmap : (l ++ b).map ckey = l.map ckey ++ b.map ckey := List.map_append
  refine Calls.mono (pairs_core (l.map ckey) (b.map ckey) vl vb w (by rw [map_ckey_fst]; exact hvl) (by rw [map_ckey_fst]; exact hvb) (fun e he => ?_) (by rw [← hmap, List.length_map]; exact hlen)) ?_
  · rw [← hmap] at he
    obtain ⟨q, hq, rfl⟩ := List.mem_map.1 he
    exact ⟨(hl q hq).1.cost, (hl q hq).2⟩
  · rintro e w' ⟨v, P, E, rs, rfl, h1, h2, h3, h4, h5, h6, h7, h8⟩
    rw [← hmap] at h1
    obtain ⟨Q, q1, q2⟩ := perm_map ckey h1 rfl
    obtain ⟨rt, r1, r2, r3⟩ := nodes_trees (N := N) hN q2 h5 h7 (fun e he => (hl e (q1.mem_iff.1 he)).1.below h8)
    refine ⟨v, Q, rt, rfl, q1, ?_, r2, ?_, r3, h8⟩
    · rw [← map_ckey_snd, q2, List.map_append]
      unfold Up
      rw [List.pairwise_append]
      refine ⟨List.pairwise_map.2 h2, ?_, fun a ha c hc => ?_⟩
      · match E, h5 with
        | [], _ => exact List.Pairwise.nil
        | [_], _ => simp
        | _ :: _ :: _, h5 => simp at h5
      · obtain ⟨x, hx, rfl⟩ := List.mem_map.1 ha
        obtain ⟨y, hy, rfl⟩ := List.mem_map.1 hc
        exact h3 x hx y hy
    · rw [r1]
      have : rt.length = rs.length := by rw [← r1, List.length_map]
      rw [this]; exact h6

theorem RowT.len_le {ls : List Tr} : ∀ {j : Nat} {P : List Tr}, RowT ls j P → P.length ≤ 2 * ls.length
  | 0, _, h => by subst h; simp
  | j + 1, P, ⟨Q, hQ, _, hp⟩ => by
    have h1 := RowT.len_le hQ
    have h2 := hp.length_eq
    rw [List.length_append, pairT_len] at h2
    omega
theorem RowT.cost_le {ls : List Tr} {C : Nat} (hc : ∀ t ∈ ls, t.cost ≤ C) : ∀ {j : Nat} {P : List Tr}, RowT ls j P → ∀ t ∈ P, t.cost ≤ C * 2 ^ j
  | 0, _, h, t, ht => by subst h; cases ht
  | j + 1, P, ⟨Q, hQ, _, hp⟩, t, ht => by
    have h2 : C * 2 ^ (j + 1) = C * 2 ^ j + C * 2 ^ j := by rw [Nat.pow_succ, ← Nat.mul_assoc]; omega
    rcases List.mem_append.1 (hp.mem_iff.1 ht) with h | h
    · have := hc t h
      have h3 : C * 1 ≤ C * 2 ^ (j + 1) := Nat.mul_le_mul_left C (pow_pos2 _)
      omega
    · obtain ⟨a, b, rfl, ha, hb⟩ := pairT_node _ t h
      have h3 := RowT.cost_le hc hQ a ha
      have h4 := RowT.cost_le hc hQ b hb
      simp only [Tr.cost]
      omega

end Go.Proofs.YtebfdoipogjpnaaGreat
