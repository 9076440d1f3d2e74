/- huff's parcels as trees in memory; pairs and cheapest over them. -/
import Derived.Test.YtlbhgackpjfhaaaHufF
namespace Go.Proofs.Ytlbhgackpjfhaaa
open Go.RowKit

/-- Block b is this parcel; all its blocks are of N. -/
def TrAt (w : World) (N : Nat → Prop) : Nat → Tr → Prop
  | b, .leaf s c => N b ∧ w.heap[b]? = some (.cells #[.int .i64 (c : Int), .int .i64 (s : Int), .slice none 0 0] 83)
  | b, .node x y => N b ∧ ∃ g bx by', N g ∧ w.heap[b]? = some (.cells #[.int .i64 ((x.cost : Int) + (y.cost : Int)), .int .i64 0, .slice (some ⟨g, 0, none⟩) 2 2] 83) ∧
      w.heap[g]? = some (.cells #[ptrV bx, ptrV by'] 84) ∧ TrAt w N bx x ∧ TrAt w N by' y

theorem TrAt.keep {w w' : World} {N N' : Nat → Prop} (hk : ∀ i, i < w.heap.size → N i → w'.heap[i]? = w.heap[i]? ∧ N' i) : ∀ {t : Tr} {b : Nat}, TrAt w N b t → TrAt w' N' b t
  | .leaf _ _, b, h => by
    unfold TrAt at h ⊢
    have k1 := hk b (lt_heap h.2) h.1
    exact ⟨k1.2, k1.1.trans h.2⟩
  | .node _ _, b, h => by
    unfold TrAt at h ⊢
    obtain ⟨h1, g, bx, by', h2, h3, h4, h5, h6⟩ := h
    have k1 := hk b (lt_heap h3) h1
    have k2 := hk g (lt_heap h4) h2
    exact ⟨k1.2, g, bx, by', k2.2, k1.1.trans h3, k2.1.trans h4, TrAt.keep hk h5, TrAt.keep hk h6⟩

theorem TrAt.below {w w' : World} {N : Nat → Prop} {t : Tr} {b : Nat} (h : TrAt w N b t) (hb : Below w.heap.size w w') : TrAt w' N b t :=
  h.keep (fun i hi hN => ⟨hb.block i hi, hN⟩)

theorem TrAt.cost {w : World} {N : Nat → Prop} : ∀ {t : Tr} {b : Nat}, TrAt w N b t → w.cell? ⟨b, 0, none⟩ = some (.int .i64 (t.cost : Int))
  | .leaf _ _, b, h => by
    unfold TrAt at h
    simp [World.cell?, h.2, Tr.cost]
  | .node _ _, b, h => by
    unfold TrAt at h
    obtain ⟨h1, g, bx, by', h2, h3, h4, h5, h6⟩ := h
    simp [World.cell?, h3, Tr.cost]

def ckey (e : Nat × Tr) : Nat × Nat := (e.1, e.2.cost)

theorem perm_map {α β : Type} (f : α → β) {X Y : List β} (h : X.Perm Y) : ∀ {L : List α}, Y = L.map f → ∃ Z : List α, Z.Perm L ∧ Z.map f = X := by
  induction h with
  | nil =>
    intro L e
    cases L with
    | nil => exact ⟨[], List.Perm.refl _, rfl⟩
    | cons a l => cases e
  | cons x h ih =>
    intro L e
    cases L with
    | nil => cases e
    | cons a l =>
      injection e with e1 e2
      obtain ⟨Z, h1, h2⟩ := ih e2
      exact ⟨a :: Z, h1.cons a, by rw [List.map_cons, h2, e1]⟩
  | swap x y l =>
    intro L e
    match L, e with
    | [], e => cases e
    | [_], e => cases e
    | a :: b :: L, e =>
      injection e with e1 e2
      injection e2 with e2 e3
      exact ⟨b :: a :: L, List.Perm.swap a b L, by simp only [List.map_cons]; rw [← e1, ← e2, ← e3]⟩
  | trans _ _ h1 h2 =>
    intro L e
    obtain ⟨Z, z1, z2⟩ := h2 e
    obtain ⟨Z', y1, y2⟩ := h1 z2.symm
    exact ⟨Z', y1.trans z1, y2⟩

theorem nodes_trees {w : World} {N N0 : Nat → Prop} (hN : ∀ i, N0 i → N i) : ∀ {rs : List Nat} {P E : List (Nat × Nat)} {Q : List (Nat × Tr)}, Q.map ckey = P ++ E → E.length ≤ 1 → Nodes w N0 P rs → (∀ e ∈ Q, TrAt w N e.1 e.2) →
    ∃ rt : List (Nat × Tr), rt.map Prod.fst = rs ∧ rt.map Prod.snd = pairT (Q.map Prod.snd) ∧ ∀ e ∈ rt, TrAt w N e.1 e.2
  | [], [], E, Q, hQ, hE, _, _ => by
    refine ⟨[], rfl, ?_, fun e he => by cases he⟩
    have hl := congrArg List.length hQ
    simp at hl
    match Q, hl with
    | [], _ => simp [pairT]
    | [_], _ => simp [pairT]
    | _ :: _ :: _, hl => simp at hl; omega
  | r :: rs, a :: b :: P, E, Q, hQ, hE, hn, ht => by
    obtain ⟨h1, h2⟩ := hn
    match Q, hQ with
    | [], hQ => cases hQ
    | [_], hQ => simp at hQ
    | qa :: qb :: Q, hQ =>
      simp only [List.map_cons, List.cons_append, List.cons.injEq] at hQ
      obtain ⟨ea, eb, hQ⟩ := hQ
      obtain ⟨rt, r1, r2, r3⟩ := nodes_trees hN hQ hE h2 (fun e he => ht e (List.mem_cons_of_mem _ (List.mem_cons_of_mem _ he)))
      obtain ⟨g, n1, n2, n3, n4⟩ := h1
      subst ea eb
      refine ⟨(r, .node qa.2 qb.2) :: rt, by rw [List.map_cons, r1], by simp only [List.map_cons, pairT, r2], fun e he => ?_⟩
      rcases List.mem_cons.1 he with rfl | he
      · unfold TrAt
        exact ⟨hN _ n1, g, qa.1, qb.1, hN _ n2, n3, n4, ht qa (by simp), ht qb (by simp)⟩
      · exact r3 e he
  | [], [_], _, _, _, _, h, _ => h.elim
  | _ :: _, [_], _, _, _, _, h, _ => h.elim
  | [], _ :: _ :: _, _, _, _, _, h, _ => h.elim
  | _ :: _, [], _, _, _, _, h, _ => h.elim

theorem map_ckey_fst (l : List (Nat × Tr)) : (l.map ckey).map Prod.fst = l.map Prod.fst := by rw [List.map_map]; rfl
theorem map_ckey_snd (l : List (Nat × Tr)) : (l.map ckey).map Prod.snd = (l.map Prod.snd).map Tr.cost := by rw [List.map_map, List.map_map]; rfl

set_option maxHeartbeats 1000000 in
theorem pairs_any (N : Nat → Prop) (l b : List (Nat × Tr)) (vl vb : Value) (w : World) (hN : ∀ i, w.heap.size ≤ i → N i) (hvl : Row encP 1 w vl (l.map Prod.fst)) (hvb : Row encP 1 w vb (b.map Prod.fst))
    (hl : ∀ e ∈ l ++ b, TrAt w N e.1 e.2 ∧ e.2.cost ≤ 1152921504606846976) (hlen : (l ++ b).length ≤ 65536) :
    Calls Try.prog 44 #[vl, vb] w fun e w' => ∃ (v : Value) (Q rt : List (Nat × Tr)), e = .returned v ∧ Q.Perm (l ++ b) ∧ Up ((Q.map Prod.snd).map Tr.cost) ∧ rt.map Prod.snd = pairT (Q.map Prod.snd) ∧
      w'.ownsRow w.heap.size 84 1 v rt.length ((rt.map Prod.fst).map ptrV) ∧ (∀ e ∈ rt, TrAt w' N e.1 e.2) ∧ Below w.heap.size w w' := by
  have hmap : (l ++ b).map ckey = l.map ckey ++ b.map ckey := List.map_append
  refine Calls.mono (pairs_core (l.map ckey) (b.map ckey) vl vb w (by rw [map_ckey_fst]; exact hvl) (by rw [map_ckey_fst]; exact hvb) (fun e he => ?_) (by rw [← hmap, List.length_map]; exact hlen)) ?_
  · rw [← hmap] at he
    obtain ⟨q, hq, rfl⟩ := List.mem_map.1 he
    exact ⟨(hl q hq).1.cost, (hl q hq).2⟩
  · rintro e w' ⟨v, P, E, rs, rfl, h1, h2, h3, h4, h5, h6, h7, h8⟩
    rw [← hmap] at h1
    obtain ⟨Q, q1, q2⟩ := perm_map ckey h1 rfl
    obtain ⟨rt, r1, r2, r3⟩ := nodes_trees (N := N) hN q2 h5 h7 (fun e he => (hl e (q1.mem_iff.1 he)).1.below h8)
    refine ⟨v, Q, rt, rfl, q1, ?_, r2, ?_, r3, h8⟩
    · rw [← map_ckey_snd, q2, List.map_append]
      unfold Up
      rw [List.pairwise_append]
      refine ⟨List.pairwise_map.2 h2, ?_, fun a ha c hc => ?_⟩
      · match E, h5 with
        | [], _ => exact List.Pairwise.nil
        | [_], _ => simp
        | _ :: _ :: _, h5 => simp at h5
      · obtain ⟨x, hx, rfl⟩ := List.mem_map.1 ha
        obtain ⟨y, hy, rfl⟩ := List.mem_map.1 hc
        exact h3 x hx y hy
    · rw [r1]
      have : rt.length = rs.length := by rw [← r1, List.length_map]
      rw [this]; exact h6

theorem RowT.len_le {ls : List Tr} : ∀ {j : Nat} {P : List Tr}, RowT ls j P → P.length ≤ 2 * ls.length
  | 0, _, h => by subst h; simp
  | j + 1, P, ⟨Q, hQ, _, hp⟩ => by
    have h1 := RowT.len_le hQ
    have h2 := hp.length_eq
    rw [List.length_append, pairT_len] at h2
    omega
theorem RowT.cost_le {ls : List Tr} {C : Nat} (hc : ∀ t ∈ ls, t.cost ≤ C) : ∀ {j : Nat} {P : List Tr}, RowT ls j P → ∀ t ∈ P, t.cost ≤ C * 2 ^ j
  | 0, _, h, t, ht => by subst h; cases ht
  | j + 1, P, ⟨Q, hQ, _, hp⟩, t, ht => by
    have h2 : C * 2 ^ (j + 1) = C * 2 ^ j + C * 2 ^ j := by rw [Nat.pow_succ, ← Nat.mul_assoc]; omega
    rcases List.mem_append.1 (hp.mem_iff.1 ht) with h | h
    · have := hc t h
      have h3 : C * 1 ≤ C * 2 ^ (j + 1) := Nat.mul_le_mul_left C (pow_pos2 _)
      omega
    · obtain ⟨a, b, rfl, ha, hb⟩ := pairT_node _ t h
      have h3 := RowT.cost_le hc hQ a ha
      have h4 := RowT.cost_le hc hQ b hb
      simp only [Tr.cost]
      omega

end Go.Proofs.Ytlbhgackpjfhaaa
