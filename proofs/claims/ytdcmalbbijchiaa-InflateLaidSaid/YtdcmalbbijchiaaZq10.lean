/- Several texts in one, each with its own head. -/
import Derived.Test.YtdcmalbbijchiaaZq9
/- huff's parcels as trees in memory; pairs and cheapest over them. -/
namespace Go.Proofs.Ytdcmalbbijchiaa
open Go.RowKit

/-- Block b is this parcel; all its blocks are of N. -/
def TrAt (w : World) (N : Nat → Prop) : Nat → Tr → Prop
  | b, .leaf s c => N b ∧ w.heap[b]? = some (.cells #[.int .i64 (c : Int), .int .i64 (s : Int), .slice none 0 0] 89)
  | b, .node x y => N b ∧ ∃ g bx by', N g ∧ w.heap[b]? = some (.cells #[.int .i64 ((x.cost : Int) + (y.cost : Int)), .int .i64 0, .slice (some ⟨g, 0, none⟩) 2 2] 89) ∧
      w.heap[g]? = some (.cells #[ptrV bx, ptrV by'] 90) ∧ TrAt w N bx x ∧ TrAt w N by' y

theorem TrAt.keep {w w' : World} {N N' : Nat → Prop} (hk : ∀ i, i < w.heap.size → N i → w'.heap[i]? = w.heap[i]? ∧ N' i) : ∀ {t : Tr} {b : Nat}, TrAt w N b t → TrAt w' N' b t
  | .leaf _ _, b, h => by
    unfold TrAt at h ⊢
    have k1 := hk b (lt_heap h.2) h.1
    exact ⟨k1.2, k1.1.trans h.2⟩
  | .node _ _, b, h => by
    unfold TrAt at h ⊢
    obtain ⟨h1, g, bx, by', h2, h3, h4, h5, h6⟩ := h
    have k1 := hk b (lt_heap h3) h1
    have k2 := hk g (lt_heap h4) h2
    exact ⟨k1.2, g, bx, by', k2.2, k1.1.trans h3, k2.1.trans h4, TrAt.keep hk h5, TrAt.keep hk h6⟩

theorem TrAt.below {w w' : World} {N : Nat → Prop} {t : Tr} {b : Nat} (h : TrAt w N b t) (hb : Below w.heap.size w w') : TrAt w' N b t :=
  h.keep (fun i hi hN => ⟨hb.block i hi, hN⟩)

theorem TrAt.cost {w : World} {N : Nat → Prop} : ∀ {t : Tr} {b : Nat}, TrAt w N b t → w.cell? ⟨b, 0, none⟩ = some (.int .i64 (t.cost : Int))
  | .leaf _ _, b, h => by
    unfold TrAt at h
    simp [World.cell?, h.2, Tr.cost]
  | .node _ _, b, h => by
    unfold TrAt at h
    obtain ⟨h1, g, bx, by', h2, h3, h4, h5, h6⟩ := h
    simp [World.cell?, h3, Tr.cost]

def ckey (e : Nat × Tr) : Nat × Nat := (e.1, e.2.cost)

theorem perm_map {α β : Type} (f : α → β) {X Y : List β} (h : X.Perm Y) : ∀ {L : List α}, Y = L.map f → ∃ Z : List α, Z.Perm L ∧ Z.map f = X := by
  induction h with
  | nil =>
    intro L e
    cases L with
    | nil => exact ⟨[], List.Perm.refl _, rfl⟩
    | cons a l => cases e
  | cons x h ih =>
    intro L e
    cases L with
    | nil => cases e
    | cons a l =>
      injection e with e1 e2
      obtain ⟨Z, h1, h2⟩ := ih e2
      exact ⟨a :: Z, h1.cons a, by rw [List.map_cons, h2, e1]⟩
  | swap x y l =>
    intro L e
    match L, e with
    | [], e => cases e
    | [_], e => cases e
    | a :: b :: L, e =>
      injection e with e1 e2
      injection e2 with e2 e3
      exact ⟨b :: a :: L, List.Perm.swap a b L, by simp only [List.map_cons]; rw [← e1, ← e2, ← e3]⟩
  | trans _ _ h1 h2 =>
    intro L e
    obtain ⟨Z, z1, z2⟩ := h2 e
    obtain ⟨Z', y1, y2⟩ := h1 z2.symm
    exact ⟨Z', y1.trans z1, y2⟩

theorem nodes_trees {w : World} {N N0 : Nat → Prop} (hN : ∀ i, N0 i → N i) : ∀ {rs : List Nat} {P E : List (Nat × Nat)} {Q : List (Nat × Tr)}, Q.map ckey = P ++ E → E.length ≤ 1 → Nodes w N0 P rs → (∀ e ∈ Q, TrAt w N e.1 e.2) →
    ∃ rt : List (Nat × Tr), rt.map Prod.fst = rs ∧ rt.map Prod.snd = pairT (Q.map Prod.snd) ∧ ∀ e ∈ rt, TrAt w N e.1 e.2
  | [], [], E, Q, hQ, hE, _, _ => by
    refine ⟨[], rfl, ?_, fun e he => by cases he⟩
    have hl := congrArg List.length hQ
    simp at hl
    match Q, hl with
    | [], _ => simp [pairT]
    | [_], _ => simp [pairT]
    | _ :: _ :: _, hl => simp at hl; omega
  | r :: rs, a :: b :: P, E, Q, hQ, hE, hn, ht => by
    obtain ⟨h1, h2⟩ := hn
    match Q, hQ with
    | [], hQ => cases hQ
    | [_], hQ => simp at hQ
    | qa :: qb :: Q, hQ =>
      simp only [List.map_cons, List.cons_append, List.cons.injEq] at hQ
      obtain ⟨ea, eb, hQ⟩ := hQ
      obtain ⟨rt, r1, r2, r3⟩ := nodes_trees hN hQ hE h2 (fun e he => ht e (List.mem_cons_of_mem _ (List.mem_cons_of_mem _ he)))
      obtain ⟨g, n1, n2, n3, n4⟩ := h1
      subst ea eb
      refine ⟨(r, .node qa.2 qb.2) :: rt, by rw [List.map_cons, r1], by simp only [List.map_cons, pairT, r2], fun e he => ?_⟩
      rcases List.mem_cons.1 he with rfl | he
      · unfold TrAt
        exact ⟨hN _ n1, g, qa.1, qb.1, hN _ n2, n3, n4, ht qa (by simp), ht qb (by simp)⟩
      · exact r3 e he
  | [], [_], _, _, _, _, h, _ => h.elim
  | _ :: _, [_], _, _, _, _, h, _ => h.elim
  | [], _ :: _ :: _, _, _, _, _, h, _ => h.elim
  | _ :: _, [], _, _, _, _, h, _ => h.elim

theorem map_ckey_fst (l : List (Nat × Tr)) : (l.map ckey).map Prod.fst = l.map Prod.fst := by rw [List.map_map]; rfl
theorem map_ckey_snd (l : List (Nat × Tr)) : (l.map ckey).map Prod.snd = (l.map Prod.snd).map Tr.cost := by rw [List.map_map, List.map_map]; rfl

set_option maxHeartbeats 1000000 in
theorem pairs_any (N : Nat → Prop) (l b : List (Nat × Tr)) (vl vb : Value) (w : World) (hN : ∀ i, w.heap.size ≤ i → N i) (hvl : Row encP 1 w vl (l.map Prod.fst)) (hvb : Row encP 1 w vb (b.map Prod.fst))
    (hl : ∀ e ∈ l ++ b, TrAt w N e.1 e.2 ∧ e.2.cost ≤ 1152921504606846976) (hlen : (l ++ b).length ≤ 65536) :
    Calls Try.prog 53 #[vl, vb] w fun e w' => ∃ (v : Value) (Q rt : List (Nat × Tr)), e = .returned v ∧ Q.Perm (l ++ b) ∧ Up ((Q.map Prod.snd).map Tr.cost) ∧ rt.map Prod.snd = pairT (Q.map Prod.snd) ∧
      w'.ownsRow w.heap.size 90 1 v rt.length ((rt.map Prod.fst).map ptrV) ∧ (∀ e ∈ rt, TrAt w' N e.1 e.2) ∧ Below w.heap.size w w' := by
  have hmap : (l ++ b).map ckey = l.map ckey ++ b.map ckey := List.map_append
  refine Calls.mono (pairs_core (l.map ckey) (b.map ckey) vl vb w (by rw [map_ckey_fst]; exact hvl) (by rw [map_ckey_fst]; exact hvb) (fun e he => ?_) (by rw [← hmap, List.length_map]; exact hlen)) ?_
  · rw [← hmap] at he
    obtain ⟨q, hq, rfl⟩ := List.mem_map.1 he
    exact ⟨(hl q hq).1.cost, (hl q hq).2⟩
  · rintro e w' ⟨v, P, E, rs, rfl, h1, h2, h3, h4, h5, h6, h7, h8⟩
    rw [← hmap] at h1
    obtain ⟨Q, q1, q2⟩ := perm_map ckey h1 rfl
    obtain ⟨rt, r1, r2, r3⟩ := nodes_trees (N := N) hN q2 h5 h7 (fun e he => (hl e (q1.mem_iff.1 he)).1.below h8)
    refine ⟨v, Q, rt, rfl, q1, ?_, r2, ?_, r3, h8⟩
    · rw [← map_ckey_snd, q2, List.map_append]
      unfold Up
      rw [List.pairwise_append]
      refine ⟨List.pairwise_map.2 h2, ?_, fun a ha c hc => ?_⟩
      · match E, h5 with
        | [], _ => exact List.Pairwise.nil
        | [_], _ => simp
        | _ :: _ :: _, h5 => simp at h5
      · obtain ⟨x, hx, rfl⟩ := List.mem_map.1 ha
        obtain ⟨y, hy, rfl⟩ := List.mem_map.1 hc
        exact h3 x hx y hy
    · rw [r1]
      have : rt.length = rs.length := by rw [← r1, List.length_map]
      rw [this]; exact h6

theorem RowT.len_le {ls : List Tr} : ∀ {j : Nat} {P : List Tr}, RowT ls j P → P.length ≤ 2 * ls.length
  | 0, _, h => by subst h; simp
  | j + 1, P, ⟨Q, hQ, _, hp⟩ => by
    have h1 := RowT.len_le hQ
    have h2 := hp.length_eq
    rw [List.length_append, pairT_len] at h2
    omega
theorem RowT.cost_le {ls : List Tr} {C : Nat} (hc : ∀ t ∈ ls, t.cost ≤ C) : ∀ {j : Nat} {P : List Tr}, RowT ls j P → ∀ t ∈ P, t.cost ≤ C * 2 ^ j
  | 0, _, h, t, ht => by subst h; cases ht
  | j + 1, P, ⟨Q, hQ, _, hp⟩, t, ht => by
    have h2 : C * 2 ^ (j + 1) = C * 2 ^ j + C * 2 ^ j := by rw [Nat.pow_succ, ← Nat.mul_assoc]; omega
    rcases List.mem_append.1 (hp.mem_iff.1 ht) with h | h
    · have := hc t h
      have h3 : C * 1 ≤ C * 2 ^ (j + 1) := Nat.mul_le_mul_left C (pow_pos2 _)
      omega
    · obtain ⟨a, b, rfl, ha, hb⟩ := pairT_node _ t h
      have h3 := RowT.cost_le hc hQ a ha
      have h4 := RowT.cost_le hc hQ b hb
      simp only [Tr.cost]
      omega

end Go.Proofs.Ytdcmalbbijchiaa

/- huff's cheapest. -/
namespace Go.Proofs.Ytdcmalbbijchiaa
open Go.RowKit

theorem RowAt.take {α : Type} {enc : α → List Value} {k : Nat} {W : World} {p : Option Addr} {xs : List α} (h : RowAt enc k W p xs) (m : Nat) : RowAt enc k W p (xs.take m) := by
  rcases h with ⟨h1, rfl⟩ | ⟨b, off, rfl, h2, h3⟩
  · exact .inl ⟨h1, by simp⟩
  · refine .inr ⟨b, off, rfl, h2, fun i x hi j u hj => h3 i x ?_ j u hj⟩
    rw [List.getElem?_take] at hi
    split at hi
    · exact hi
    · cases hi
theorem Row.take {α : Type} {enc : α → List Value} {k : Nat} {W : World} {p : Option Addr} {n c : Nat} {xs : List α} (h : Row enc k W (.slice p n c) xs) {m : Nat} (hm : m ≤ xs.length) : Row enc k W (.slice p m c) (xs.take m) := by
  obtain ⟨p', c', e, h1, h2, h3⟩ := h
  cases e
  have hl : (xs.take m).length = m := by rw [List.length_take]; omega
  exact ⟨p, c, by rw [hl], by omega, h2, h3.take m⟩

theorem own_ptrs {W : World} {base : Nat} {v : Value} {n : Nat} {bs : List Nat} (h : W.ownsRow base 90 1 v n (bs.map ptrV)) (hn : n = bs.length) : Row encP 1 W v bs := by
  subst hn
  rw [← flatP] at h
  exact owns_row' encP_len h

/-- What cheapest answers. -/
def Cheap (N : Nat → Prop) (l : List (Nat × Tr)) (L : Nat) (w : World) (e : Ending) (w' : World) : Prop :=
  ∃ (v : Value) (P : List Tr) (rt : List (Nat × Tr)), e = .returned v ∧ RowT (l.map Prod.snd) L P ∧ rt.map Prod.snd = pairT P ∧ Row encP 1 w' v ((rt.take (l.length - 1)).map Prod.fst) ∧
    (∀ e ∈ rt, TrAt w' N e.1 e.2) ∧ Below w.heap.size w w' ∧ ∀ k, v.ownBlock = some k → w.heap.size ≤ k

/-- What cheapest's loop holds: a row's parcels, bound two by two. -/
structure ChInv (N : Nat → Prop) (ls : List Tr) (w wr : World) (k : Nat) (v : Value) (P : List Tr) (rt : List (Nat × Tr)) : Prop where
  row : RowT ls k P
  eq : rt.map Prod.snd = pairT P
  own : wr.ownsRow w.heap.size 90 1 v rt.length ((rt.map Prod.fst).map ptrV)
  at' : ∀ e ∈ rt, TrAt wr N e.1 e.2
  below : Below w.heap.size w wr

set_option maxHeartbeats 1000000 in
theorem cheapest_any (N : Nat → Prop) (l : List (Nat × Tr)) (vl : Value) (L : Nat) (w : World) (hN : ∀ i, w.heap.size ≤ i → N i) (hvl : Row encP 1 w vl (l.map Prod.fst)) (hl : ∀ e ∈ l, TrAt w N e.1 e.2 ∧ e.2.cost ≤ 1099511627776) (hlen : l.length ≤ 320) (hL : L ≤ 15)
    (hfin : ∀ P, RowT (l.map Prod.snd) L P → l.length - 1 ≤ (pairT P).length) :
    Calls Try.prog 44 #[vl, .int .i64 (L : Int)] w fun e w' => Cheap N l L w e w' := by
  have Hvl := Lib.hid hvl
  have Hl := Lib.hid hl
  have Hfin := Lib.hid hfin
  have HN := Lib.hid hN
  obtain ⟨pl, cl, rfl, -, -, -⟩ := hvl
  rw [List.length_map] at Hvl ⊢
  clear hl hfin hN
  go_enter Try.func44, Try.ntmps44
  go_wp2
  go_loopw [5, 7] (fun v kv wr => ∃ (k : Nat) (P : List Tr) (rt : List (Nat × Tr)), kv = .int .i64 (k : Int) ∧ k ≤ L ∧ Hid (ChInv N (l.map Prod.snd) w wr k v P rt)) (fun _ kv _ => L - (intOf kv).toNat)
  case atStart => exact ⟨0, [], [], rfl, Nat.zero_le _, Lib.hid ⟨rfl, by simp [pairT], World.ownsRow_nil _ _ _ _, (fun e he => by cases he), Below.refl _ _⟩⟩
  case round =>
    obtain ⟨k, P, rt, rfl, hk, HI⟩ := hrel
    obtain ⟨pb, cb, rfl⟩ := owns_slice HI.out.own
    by_cases hlt : k < L
    · have d1 : (k : Int) < (L : Int) := by omega
      have hlsl : (l.map Prod.snd).length = l.length := List.length_map _
      have Hpre : Hid ((∀ e ∈ l ++ rt, TrAt wr N e.1 e.2 ∧ e.2.cost ≤ 1152921504606846976) ∧ (l ++ rt).length ≤ 65536) := Lib.hid (by
        refine ⟨fun e he => ?_, ?_⟩
        · rcases List.mem_append.1 he with he | he
          · obtain ⟨h1, h2⟩ := Hl.out e he
            exact ⟨h1.below HI.out.below, by omega⟩
          · refine ⟨HI.out.at' e he, ?_⟩
            have hm : e.2 ∈ pairT P := by rw [← HI.out.eq]; exact List.mem_map_of_mem he
            obtain ⟨x, y, e1, hx, hy⟩ := pairT_node P _ hm
            have hc : ∀ t ∈ l.map Prod.snd, t.cost ≤ 1099511627776 := fun t ht => by
              obtain ⟨q, hq, rfl⟩ := List.mem_map.1 ht
              exact (Hl.out q hq).2
            have h1 := RowT.cost_le hc HI.out.row x hx
            have h2 := RowT.cost_le hc HI.out.row y hy
            have h3 : 2 ^ k ≤ 2 ^ 15 := Nat.pow_le_pow_right (by decide) (by omega)
            have h4 : (2 : Nat) ^ 15 = 32768 := rfl
            rw [e1]
            simp only [Tr.cost]
            omega
        · have h1 := RowT.len_le HI.out.row
          have h2 := congrArg List.length HI.out.eq
          rw [List.length_map, pairT_len] at h2
          rw [List.length_append]
          omega)
      have Hvl2 := Lib.hid (Hvl.out.below HI.out.below)
      have Hvb2 := Lib.hid (own_ptrs HI.out.own (by rw [List.length_map]))
      have HN2 : Hid (∀ i, wr.heap.size ≤ i → N i) := Lib.hid (fun i hi => HN.out i (Nat.le_trans HI.out.below.size hi))
      clear hlsl
      go_wp2_with fail
      refine Calls.mono (pairs_any N l rt _ _ wr HN2.out Hvl2.out Hvb2.out Hpre.out.1 Hpre.out.2) ?_
      rintro e w1 ⟨v, Q, rt', rfl, h1, h2, h3, h4, h5, h6⟩
      have HI1 : Hid (ChInv N (l.map Prod.snd) w w1 (k + 1) v (Q.map Prod.snd) rt') := Lib.hid ⟨⟨P, HI.out.row, h2, by
        have := h1.map Prod.snd
        rw [List.map_append, HI.out.eq] at this
        exact this⟩, h3, hq_base h4 HI.out.below.size, h5, Below.thn HI.out.below h6⟩
      clear h1 h2 h3 h4 h5 h6
      go_wp2
      go_roundw
      case rel => exact ⟨k + 1, _, rt', by go_num, by omega, HI1⟩
      case measure => simp [intOf]; omega
    · obtain rfl : k = L := by omega
      have hcap : rt.length ≤ cb ∧ l.length - 1 ≤ rt.length := by
        refine ⟨?_, ?_⟩
        · rcases HI.out.own.2 with ⟨h0, h1⟩ | ⟨g, cap, cur, hv, -, -, hn, -⟩
          · omega
          · injection hv with a1 a2 a3
            omega
        · have h2 := congrArg List.length HI.out.eq
          have h3 := Hfin.out P HI.out.row
          rw [List.length_map] at h2
          omega
      have hrow := own_ptrs HI.out.own (by rw [List.length_map])
      have Hrow := Lib.hid (hrow.take (m := l.length - 1) (by rw [List.length_map]; omega))
      clear hrow
      obtain ⟨h1, h2⟩ := hcap
      go_wp2
      · go_ret
        have e0 : l.length - 1 = 0 := by omega
        have hr := Hrow.out
        rw [e0] at hr
        exact ⟨_, P, rt, rfl, HI.out.row, HI.out.eq, by rw [e0, List.map_take]; exact hr, HI.out.at', HI.out.below, fun k hk => (HI.out.own.lt k (by cases pb <;> exact hk)).1⟩
      · go_ret
        exact ⟨_, P, rt, rfl, HI.out.row, HI.out.eq, by rw [List.map_take]; exact Hrow.out, HI.out.at', HI.out.below, fun k hk => (HI.out.own.lt k (by cases pb <;> exact hk)).1⟩

end Go.Proofs.Ytdcmalbbijchiaa

/- huff's mayBe, singles, count. -/
namespace Go.Proofs.Ytdcmalbbijchiaa
open Go.RowKit

/-- Ints as cells. -/
def encZ (i : Int) : List Value := [.int .i64 i]
theorem encZ_len (i : Int) : (encZ i).length = 1 := rfl

theorem RowAt.int {W : World} {p : Option Addr} {xs : List Int} (h : RowAt encZ 1 W p xs) {k : Nat} (hk : k < xs.length) : ∃ b off, p = some ⟨b, off, none⟩ ∧ W.cell? ⟨b, off + k, none⟩ = some (.int .i64 xs[k]) := by
  rcases h with ⟨-, rfl⟩ | ⟨b, off, rfl, -, h⟩
  · simp at hk
  · refine ⟨b, off, rfl, ?_⟩
    have := h k xs[k] (List.getElem?_eq_getElem hk) 0 _ rfl
    simpa using this

def okF (f : Int) : Bool := decide (0 ≤ f ∧ f ≤ 1099511627776)
def mayB (fs : List Int) (limit : Int) : Bool := decide (1 ≤ limit ∧ limit ≤ 15 ∧ fs.length ≤ 320) && fs.all okF

theorem all_at {fs : List Int} {k : Nat} (hk : k < fs.length) (h : (fs.take k).all okF = true) : (okF fs[k] = false → fs.all okF = false) ∧ (okF fs[k] = true → (fs.take (k + 1)).all okF = true) := by
  refine ⟨fun h1 => ?_, fun h1 => ?_⟩
  · rw [Bool.eq_false_iff]
    intro h2
    have := List.all_eq_true.1 h2 fs[k] (List.getElem_mem hk)
    rw [h1] at this; cases this
  · rw [List.take_succ_eq_append_getElem hk, List.all_append, h]
    simp [h1]

set_option maxHeartbeats 1000000 in
theorem mayBe_any (fs : List Int) (v : Value) (limit : Int) (w : World) (hv : Row encZ 1 w v fs) :
    Calls Try.prog 42 #[v, .int .i64 limit] w fun e w' => e = .returned (.bool (mayB fs limit)) ∧ w' = w := by
  have hlen := hv.len
  obtain ⟨p, c, rfl, -, -, hrow⟩ := hv
  have Hrow := Lib.hid hrow
  obtain ⟨bb, hbb⟩ : ∃ bb, mayB fs limit = bb := ⟨_, rfl⟩
  rw [hbb]
  have Hbb := Lib.hid hbb
  clear hrow hbb
  by_cases hok : 1 ≤ limit ∧ limit ≤ 15 ∧ fs.length ≤ 320
  · obtain ⟨h1, h2, h3⟩ := hok
    have e1 : ¬ limit < 1 := by omega
    have e2 : ¬ 15 < limit := by omega
    have e3 : ¬ (320 : Int) < fs.length := by omega
    go_enter Try.func42, Try.ntmps42
    go_wp2
    go_loop [20] (fun kv => ∃ (k : Nat), kv = .int .i64 (k : Int) ∧ k ≤ fs.length ∧ Hid ((fs.take k).all okF = true)) (fun kv => fs.length - (intOf kv).toNat)
    case atStart => exact ⟨0, rfl, Nat.zero_le _, Lib.hid (by simp)⟩
    case round =>
      obtain ⟨k, rfl, hk, Hk⟩ := hrel
      by_cases hlt : k < fs.length
      · obtain ⟨g, off, rfl, hcell⟩ := Hrow.out.int hlt
        have Hat := Lib.hid (all_at hlt Hk.out)
        obtain ⟨x, hx⟩ : ∃ x, fs[k] = x := ⟨_, rfl⟩
        rw [hx] at hcell Hat
        have k0 : (0 : Int) ≤ (k : Int) := by omega
        have k1 : (k : Int) < (fs.length : Int) := by omega
        clear hx
        by_cases hx1 : x < 0
        · have hf : bb = false := by
            rw [← Hbb.out]
            unfold mayB
            rw [Hat.out.1 (by unfold okF; simp; omega)]
            simp
          go_wp2
          go_ret
          exact ⟨rfl, rfl⟩
        · by_cases hx2 : 1099511627776 < x
          · have hf : bb = false := by
              rw [← Hbb.out]
              unfold mayB
              rw [Hat.out.1 (by unfold okF; simp; omega)]
              simp
            go_wp2
            go_ret
            exact ⟨rfl, rfl⟩
          · have Hk2 := Lib.hid (Hat.out.2 (by unfold okF; simp; omega))
            go_wp2
            go_round
            case rel => exact ⟨k + 1, by go_num, by omega, Hk2⟩
            case measure => simp [intOf]; omega
      · obtain rfl : k = fs.length := by omega
        have hf : bb = true := by
          rw [← Hbb.out]
          unfold mayB
          have := Hk.out
          rw [List.take_length] at this
          rw [this]
          simp; omega
        go_wp2
        go_ret
        exact ⟨rfl, rfl⟩
  · have hf : bb = false := by
      rw [← Hbb.out]
      unfold mayB
      simp [hok]
    clear Hbb
    subst hf
    by_cases e1 : limit < 1
    · go_enter Try.func42, Try.ntmps42
      go_wp2
      go_ret
      exact ⟨rfl, rfl⟩
    · by_cases e2 : 15 < limit
      · go_enter Try.func42, Try.ntmps42
        go_wp2
        go_ret
        exact ⟨rfl, rfl⟩
      · have e3 : (320 : Int) < fs.length := by omega
        go_enter Try.func42, Try.ntmps42
        go_wp2
        go_ret
        exact ⟨rfl, rfl⟩

/-- The frequency of a symbol. -/
def fq (fs : List Int) (i : Nat) : Nat := (fs.getD i 0).toNat

/-- One step of each of the first k symbols that is to have a code. -/
def leaves (f : Nat → Nat) : Nat → List Tr
  | 0 => []
  | k + 1 => leaves f k ++ (if 0 < f k then [.leaf k (f k)] else [])
def syms (f : Nat → Nat) : Nat → List Nat
  | 0 => []
  | k + 1 => syms f k ++ (if 0 < f k then [k] else [])

theorem Lv.snoc {s c : Nat} : ∀ {ls : List Tr} {ss : List Nat}, Lv ls ss → Lv (ls ++ [.leaf s c]) (ss ++ [s])
  | [], [], _ => ⟨rfl, trivial⟩
  | .leaf _ _ :: _, _ :: _, ⟨h1, h2⟩ => ⟨h1, Lv.snoc h2⟩
  | [], _ :: _, h => h.elim
  | .leaf _ _ :: _, [], h => h.elim
  | .node _ _ :: _, _, h => by cases h

theorem leaves_lv (f : Nat → Nat) : ∀ k, Lv (leaves f k) (syms f k)
  | 0 => trivial
  | k + 1 => by
    unfold leaves syms
    by_cases h : 0 < f k
    · rw [if_pos h, if_pos h]; exact (leaves_lv f k).snoc
    · rw [if_neg h, if_neg h, List.append_nil, List.append_nil]; exact leaves_lv f k
theorem syms_mem (f : Nat → Nat) : ∀ k, ∀ i ∈ syms f k, i < k ∧ 0 < f i
  | 0, i, h => by cases h
  | k + 1, i, h => by
    unfold syms at h
    rcases List.mem_append.1 h with h | h
    · have := syms_mem f k i h
      exact ⟨by omega, this.2⟩
    · by_cases h0 : 0 < f k
      · rw [if_pos h0] at h
        obtain rfl : i = k := by simpa using h
        exact ⟨by omega, h0⟩
      · rw [if_neg h0] at h; cases h
theorem syms_up (f : Nat → Nat) : ∀ k, (syms f k).Pairwise (· < ·)
  | 0 => List.Pairwise.nil
  | k + 1 => by
    unfold syms
    rw [List.pairwise_append]
    refine ⟨syms_up f k, ?_, fun a ha b hb => ?_⟩
    · by_cases h : 0 < f k <;> simp [h]
    · have h1 := (syms_mem f k a ha).1
      by_cases h0 : 0 < f k
      · rw [if_pos h0] at hb
        obtain rfl : b = k := by simpa using hb
        exact h1
      · rw [if_neg h0] at hb; cases hb
theorem leaves_fits (f : Nat → Nat) : ∀ k, ∀ t ∈ leaves f k, t.Fits k f ∧ ¬ t.isNode ∧ ∃ s, s < k ∧ t = .leaf s (f s)
  | 0, t, h => by cases h
  | k + 1, t, h => by
    unfold leaves at h
    rcases List.mem_append.1 h with h | h
    · obtain ⟨_, _, s, hs, rfl⟩ := leaves_fits f k t h
      exact ⟨⟨by omega, rfl⟩, (fun h => h), s, by omega, rfl⟩
    · by_cases h0 : 0 < f k
      · rw [if_pos h0] at h
        obtain rfl : t = .leaf k (f k) := by simpa using h
        exact ⟨⟨by omega, rfl⟩, (fun h => h), k, by omega, rfl⟩
      · rw [if_neg h0] at h; cases h
theorem leaves_cost (f : Nat → Nat) : ∀ k, (leaves f k).map Tr.cost = ((List.range k).map f).filter fun c => decide (0 < c)
  | 0 => rfl
  | k + 1 => by
    unfold leaves
    rw [List.map_append, leaves_cost f k, List.range_succ, List.map_append, List.filter_append]
    congr 1
    by_cases h : 0 < f k <;> simp [h, Tr.cost]
theorem leaves_len (f : Nat → Nat) (k : Nat) : (leaves f k).length = many k f := by
  have := congrArg List.length (leaves_cost f k)
  rw [List.length_map, coins_len] at this
  exact this

end Go.Proofs.Ytdcmalbbijchiaa
