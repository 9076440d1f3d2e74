/- Regions that draw their order, in the round of a range over a function: as BoxesMain and Head have it outside of a round. Nothing here speaks of one program. -/
import Derived.Test.YtpddkhhdleknnaaZ9
import Derived.OrdersIn
import Derived.OwnWalkIn
import Derived.RangeFuncCalls
namespace Go.Proofs.Ytpddkhhdleknnaa
open Go.RowKit

section
variable {P : Program} {ops : Array Oper} {W : World} {md : Region.Mode}

/-- The tail, one behind the other. -/
theorem wpAnyIn_of_seq {F : Fence} {n : Nat} {Q' : Exit → Act → World → Prop} : ∀ (l : List Oper) (k : Nat) (listed : Array Bool) (a : Act) (w : World), (∀ j, l[j]? = ops[k + j]?) →
    Region.seqB md ops l.length k listed = true → wpListIn F n P ops Q' l a w → wpAnyIn F n P md ops Q' l.length listed a w
  | [], _, _, _, _, _, hB, h => ⟨by simpa [Region.seqB] using hB, h⟩
  | o :: l, k, listed, a, w, hl, hB, h => by
    have h0 : ops[k]? = some o := by simpa using (hl 0).symm
    simp only [List.length_cons, Region.seqB, Bool.and_eq_true, decide_eq_true_eq] at hB
    refine ⟨fun h1 => (by rw [hB.1] at h1; cases h1), fun i hi => ?_⟩
    rw [hB.1] at hi
    have hik : i = k := by simpa using hi
    subst hik
    have hw : wpOpIn F n P ops Q' i (wpListIn F n P ops Q' l) a w := by unfold wpOpIn; simp only [h0]; exact h
    exact wpOpIn_mono (fun a' w' h' => wpAnyIn_of_seq l (i + 1) _ a' w' (fun j => by have := hl (j + 1); simpa [Nat.add_assoc, Nat.add_comm 1 j] using this) hB.2 h') hw

/-- WHATEVER ORDER IS DRAWN, in a round. -/
theorem boxesIn_any {Q' : Exit → Act → World → Prop} {F : (Nat → Nat) → Act → Prop} {N : Nat} (al : List (Nat × Oper)) (ob : Nat → Obj) (tl : List Oper) (lr : Nat) (hnd : ∀ (i : Nat) (o : Oper) (c : Call), ops[i]? = some o → o.op ≠ .defer c) (S : Shape md ops N) (htl : ∀ j, tl[j]? = ops[N + j]?) (hseq : Region.seqB md ops tl.length N (headDone ops.size N) = true)
    (hal : ∀ p ∈ al, ops[p.1]? = some p.2 ∧ p.2.guard = none ∧ ∀ (a : Act) (w : World), (execOp a.eval p.2).run P w = .ok (.value (.pointer (some ⟨w.heap.size, 0, none⟩))) (w.alloc (ob p.1)))
    (hF : ∀ (β : Nat → Nat) (a : Act) (w : World), F β a → Below W.heap.size W w → (∀ p ∈ al, W.heap.size ≤ β p.1 ∧ w.heap[β p.1]? = some (ob p.1)) → (∀ p ∈ al, ∀ r ∈ al, p.1 ≠ r.1 → β p.1 ≠ β r.1) → wpListIn (Fence.wide.inRound lr) 0 P ops Q' tl a w) :
    ∀ (f : Nat) (listed : Array Bool) (a : Act) (w : World) (β : Nat → Nat) (pq pa : List (Nat × Oper)), pq.length + pa.length = f → HeadInv md ops N listed → Stands P ops N W al ob listed w β pq pa →
      Lq P ops W (La W F pa β) (pq.map Prod.snd) a → wpAnyIn (Fence.wide.inRound lr) 0 P md ops Q' (f + tl.length) listed a w := by
  intro f
  induction f with
  | zero =>
    intro listed a w β pq pa hf inv st hL
    have e1 : pq = [] := List.length_eq_zero_iff.1 (by omega)
    have e2 : pa = [] := List.length_eq_zero_iff.1 (by omega)
    subst e1 e2
    rw [Nat.zero_add, st.done S]
    exact wpAnyIn_of_seq tl N _ a w htl hseq (hF β a w hL st.below (fun p hp => (st.rooms p hp).resolve_left (by simp)) (fun p hp r hr => st.apart p hp r hr (by simp) (by simp)))
  | succ f ih =>
    intro listed a w β pq pa hf inv st hL
    rw [show f + 1 + tl.length = (f + tl.length) + 1 by omega]
    refine ⟨fun h0 => absurd h0 (st.ready S (by omega)), fun i hi => ?_⟩
    obtain ⟨hil, oi, hoi, hall⟩ := mem_ready.1 hi
    have hpend : ∃ r : Nat × Oper, (r ∈ pq ∨ r ∈ pa) := by
      cases pq with
      | cons p _ => exact ⟨p, Or.inl (by simp)⟩
      | nil =>
        cases pa with
        | cons p _ => exact ⟨p, Or.inr (by simp)⟩
        | nil => simp at hf
    have hiN : i < N := by
      rcases Nat.lt_or_ge i N with h | h
      · exact h
      · obtain ⟨r, hr⟩ := hpend
        have hr' : r.1 < N ∧ listed.getD r.1 true = false := by
          rcases hr with hr | hr
          · exact ⟨(st.q r hr).1, (st.q r hr).2.1⟩
          · exact ⟨(st.a r hr).2.1, (st.a r hr).2.2.1⟩
        exact absurd hi (tail_waits S.sink S.chain S.lt inv _ r.1 rfl hr'.1 hr'.2 i h)
    have hap : ∀ r : Nat × Oper, r.1 < i → listed.getD r.1 true = false → ops[r.1]? = some r.2 → r.2.apart ops oi = true := fun r hr hl ho => by
      rcases S.pair r.1 i r.2 oi hr hiN ho hoi with h | h
      · rw [not_waits hi hl] at h; cases h
      · exact h
    unfold wpOpIn
    simp only [hoi]
    rcases st.all i hiN hil with ⟨p, hp, rfl⟩ | ⟨p, hp, rfl⟩
    · obtain ⟨pre, post, rfl⟩ := split_at hp
      obtain ⟨_, _, hpo⟩ := st.q p hp
      have heq : oi = p.2 := Option.some.inj (hoi.symm.trans hpo)
      subst heq
      have m1 := (pair_mid st.sq).1
      have hL' : Lq P ops W (La W F pa β) (pre.map Prod.snd ++ p.2 :: post.map Prod.snd) a := by simpa using hL
      obtain ⟨v, hy, hR⟩ := Lq.pick p.2 (post.map Prod.snd) (fun cs b => S.sel p.1 p.2 cs b hoi) (pre.map Prod.snd) a (fun o ho => by
        obtain ⟨r, hr, rfl⟩ := List.mem_map.1 ho
        obtain ⟨_, r2, r3⟩ := st.q r (by simp [hr])
        exact ⟨hap r (m1 r hr) r2 r3, fun cs b => S.sel r.1 r.2 cs b r3⟩) hL'
      have hR' : Lq P ops W (La W F pa β) ((pre ++ post).map Prod.snd) (a.put p.2.dst v) := by simpa using hR
      have hlen : (pre ++ post).length + pa.length = f := by simp at hf ⊢; omega
      rcases hy with ⟨hw, hm⟩ | ⟨hw, rfl⟩
      · rw [if_pos hw]
        have h3 := hm ⟨w, st.below⟩
        unfold Oper.wpIn
        refine ⟨fun _ _ => trivial, ?_⟩
        rw [Oper.semAt_plain _ _ _ (fun c => hnd _ _ c hoi)]
        simp only at h3
        generalize (execOp a.eval p.2).run P w = res at *
        cases res with
        | ok nx w' =>
          cases nx <;> simp only [mkUpon] at h3 <;> simp only [Oper.uponIn]
          case value u =>
            obtain ⟨e1, e2⟩ := h3
            rw [e1, e2]
            exact ih _ _ _ _ _ _ hlen (inv.set hi hiN) (st.quiet S.le (Below.refl _ _)) hR'
          case skip =>
            obtain ⟨e1, e2⟩ := h3
            rw [e1, ← e2]
            exact ih _ _ _ _ _ _ hlen (inv.set hi hiN) (st.quiet S.le (Below.refl _ _)) hR'
          case enter g args =>
            obtain ⟨e1, hc⟩ := h3
            rw [e1]
            refine ⟨fun h => (by simp [Fence.wide] at h), CallsIn.inRound _ ((callsIn_wide.2 hc).mono fun e w'' ⟨he, hb⟩ => ?_)⟩
            subst he
            exact ih _ _ _ _ _ _ hlen (inv.set hi hiN) (st.quiet S.le hb) hR'
        | halt x w' => simp only [mkUpon] at h3
      · rw [if_neg (by rw [hw]; exact Bool.false_ne_true)]
        exact ⟨fun _ _ => trivial, ih _ _ _ _ _ _ hlen (inv.set hi hiN) (st.quiet S.le (Below.refl _ _)) hR'⟩
    · obtain ⟨pre, post, rfl⟩ := split_at hp
      obtain ⟨hpal, _, _, hpo⟩ := st.a p hp
      have heq : oi = p.2 := Option.some.inj (hoi.symm.trans hpo)
      subst heq
      obtain ⟨_, hg, hrun⟩ := hal p hpal
      have m1 := (pair_mid st.sa).1
      have hR : Lq P ops W (La W F (pre ++ post) (updB β p.1 w.heap.size)) (pq.map Prod.snd) (a.put p.2.dst (.pointer (some ⟨w.heap.size, 0, none⟩))) :=
        Lq.put p.2 _ (fun a' h => La.pick p post pre β a' (fun r hr => by
          obtain ⟨_, _, r2, r3⟩ := st.a r (by simp [hr])
          have := m1 r hr
          exact ⟨by omega, (Oper.apart_spec (hap r this r2 r3)).2.1⟩) h w.heap.size st.below.size) _ _ (fun o ho => by
            obtain ⟨r, hr, rfl⟩ := List.mem_map.1 ho
            obtain ⟨_, r2, r3⟩ := st.q r hr
            exact ⟨hap r (st.qa r hr p hp) r2 r3, fun cs b => S.sel r.1 r.2 cs b r3⟩) hL
      have hlen : pq.length + (pre ++ post).length = f := by simp at hf ⊢; omega
      have hw : Region.wanted p.2 (yielded ops a.tmps) = true := by simp [Region.wanted, hg]
      rw [if_pos hw]
      unfold Oper.wpIn
      refine ⟨fun _ _ => trivial, ?_⟩
      rw [Oper.semAt_plain _ _ _ (fun c => hnd _ _ c hoi), hrun a w, Oper.uponIn_value]
      exact ih _ _ _ _ _ _ hlen (inv.set hi hiN) (st.made S.le (fun r hr => (hal r hr).1)) hR

def noDefer (l : List Oper) : Bool := l.all fun o => match o.op with | .defer _ => false | _ => true
theorem noDefer_spec {l : List Oper} (h : noDefer l = true) : ∀ (i : Nat) (o : Oper) (c : Call), l.toArray[i]? = some o → o.op ≠ .defer c := fun i o c hi hc => by
  have h1 := List.all_eq_true.1 h o (List.mem_of_getElem? (by simpa using hi))
  rw [hc] at h1
  cases h1

end

section
variable {P : Program}

theorem wpIn_region_head {id : Nat} {Q : Exit → Act → World → Prop} {a : Act} {w : World} {l : List Oper} (n : Nat) (lr : Nat) (hnd : noDefer l = true) (hm : P.follows .mixedOrders = true) (hS : shapeB .any l.toArray n = true)
    (hseq : Region.seqB .any l.toArray (l.drop n).length n (headDone l.toArray.size n) = true)
    (h : Lq P l.toArray w (fun a' => ∀ w' : World, Below w.heap.size w w' → wpListIn (Fence.wide.inRound lr) 0 P l.toArray Q (l.drop n) a' w') (l.take n) a) : (Code.region id l.toArray true).wpIn (Fence.wide.inRound lr) 0 P Q a w := by
  have S := shape_of hS
  have hle : n ≤ l.length := by simpa using S.le
  have htake : (l.take n).length = n := by simp; omega
  refine wpIn_region_any hm ?_
  have H := boxesIn_any (P := P) (W := w) (md := .any) (Q' := Q) (F := fun _ a' => ∀ w' : World, Below w.heap.size w w' → wpListIn (Fence.wide.inRound lr) 0 P l.toArray Q (l.drop n) a' w')
    [] (fun _ => default) (l.drop n) lr (noDefer_spec hnd) S (fun j => by simp [List.getElem?_drop]) hseq
    (fun p hp => by cases hp)
    (fun β a' w' hF hb _ _ => hF w' hb)
    n (Array.replicate l.toArray.size false) a { w with drawn := w.drawn + 1 } (fun _ => 0) (placed 0 (l.take n)) [] (by rw [placed_len, htake]; rfl)
    ⟨by simp, fun j oj _ hl => (by rw [getD_replicate_false] at hl; cases hl), fun t _ ht => getD_in (by simpa using ht) (getD_replicate_false _ _)⟩
    { size := by simp
      all := fun i hi _ => Or.inl (placed_all _ 0 i (by omega) (by rw [htake]; omega))
      q := fun p hp => by
        obtain ⟨p1, p2, p3⟩ := placed_mem _ 0 p hp
        rw [htake] at p2
        refine ⟨by omega, ?_, ?_⟩
        · exact getD_in (by simp; omega) (getD_replicate_false _ _)
        · rw [Nat.sub_zero, List.getElem?_take, if_pos (by omega)] at p3
          simpa using p3
      a := fun p hp => by cases hp
      qa := fun p hp r hr => by cases hr
      sq := placed_sorted _ _
      sa := List.Pairwise.nil
      tail := fun t _ ht => getD_in (by simpa using ht) (getD_replicate_false _ _)
      below := ⟨rfl, rfl, rfl, Nat.le_refl _, fun _ _ => rfl⟩
      rooms := fun p hp => by cases hp
      apart := fun p hp _ _ _ _ _ => by cases hp }
    (by
      rw [placed_snd]
      exact h)
  have hfuel : n + (l.drop n).length = l.toArray.size := by simp; omega
  rw [hfuel] at H
  exact H

/-- A region whose head ends in one new block. -/
theorem wpIn_region_box1 {id : Nat} {Q : Exit → Act → World → Prop} {a : Act} {w : World} {l : List Oper} (n : Nat) (o1 : Oper) (b1 : Obj) (lr : Nat) (hnd : noDefer l = true) (hm : P.follows .mixedOrders = true) (hS : shapeB .any l.toArray (n + 1) = true)
    (hseq : Region.seqB .any l.toArray (l.drop (n + 1)).length (n + 1) (headDone l.toArray.size (n + 1)) = true) (h1 : l[n]? = some o1) (hg1 : o1.guard = none)
    (hr1 : ∀ (a : Act) (w : World), (execOp a.eval o1).run P w = .ok (.value (.pointer (some ⟨w.heap.size, 0, none⟩))) (w.alloc b1))
    (h : Lq P l.toArray w (fun a' => ∀ (B1 : Nat) (w' : World), w.heap.size ≤ B1 → Below w.heap.size w w' → w'.heap[B1]? = some b1 →
      wpListIn (Fence.wide.inRound lr) 0 P l.toArray Q (l.drop (n + 1)) (a'.put o1.dst (.pointer (some ⟨B1, 0, none⟩))) w') (l.take n) a) : (Code.region id l.toArray true).wpIn (Fence.wide.inRound lr) 0 P Q a w := by
  have S := shape_of hS
  have hle : n + 1 ≤ l.length := by simpa using S.le
  have htake : (l.take n).length = n := by simp; omega
  refine wpIn_region_any hm ?_
  have H := boxesIn_any (P := P) (W := w) (md := .any) (Q' := Q) (F := fun β a' => ∀ w' : World, w.heap.size ≤ β n → Below w.heap.size w w' → w'.heap[β n]? = some b1 → wpListIn (Fence.wide.inRound lr) 0 P l.toArray Q (l.drop (n + 1)) a' w')
    [(n, o1)] (fun _ => b1) (l.drop (n + 1)) lr (noDefer_spec hnd) S (fun j => by simp [List.getElem?_drop]) hseq
    (fun p hp => by
      rcases List.mem_cons.1 hp with rfl | hp
      · exact ⟨by simpa using h1, hg1, fun a w => hr1 a w⟩
      · cases hp)
    (fun β a' w' hF hb hrm _ => by
      have r1 := hrm (n, o1) (by simp)
      exact hF w' r1.1 hb r1.2)
    (n + 1) (Array.replicate l.toArray.size false) a { w with drawn := w.drawn + 1 } (fun _ => 0) (placed 0 (l.take n)) [(n, o1)] (by rw [placed_len, htake]; rfl)
    ⟨by simp, fun j oj _ hl => (by rw [getD_replicate_false] at hl; cases hl), fun t _ ht => getD_in (by simpa using ht) (getD_replicate_false _ _)⟩
    { size := by simp
      all := fun i hi _ => by
        by_cases e : i < n
        · exact Or.inl (placed_all _ 0 i (by omega) (by rw [htake]; omega))
        · exact Or.inr ⟨(n, o1), by simp, by simp only; omega⟩
      q := fun p hp => by
        obtain ⟨p1, p2, p3⟩ := placed_mem _ 0 p hp
        rw [htake] at p2
        refine ⟨by omega, ?_, ?_⟩
        · exact getD_in (by simp; omega) (getD_replicate_false _ _)
        · rw [Nat.sub_zero, List.getElem?_take, if_pos (by omega)] at p3
          simpa using p3
      a := fun p hp => by
        refine ⟨hp, ?_⟩
        rcases List.mem_cons.1 hp with rfl | hp
        · exact ⟨by simp, getD_in (by simp; omega) (getD_replicate_false _ _), by simpa using h1⟩
        · cases hp
      qa := fun p hp r hr => by
        have p2 := (placed_mem _ 0 p hp).2.1
        rw [htake] at p2
        rcases List.mem_cons.1 hr with rfl | hr
        · simp only; omega
        · cases hr
      sq := placed_sorted _ _
      sa := by simp
      tail := fun t _ ht => getD_in (by simpa using ht) (getD_replicate_false _ _)
      below := ⟨rfl, rfl, rfl, Nat.le_refl _, fun _ _ => rfl⟩
      rooms := fun p hp => Or.inl hp
      apart := fun p hp _ _ hn _ _ => absurd hp hn }
    (by
      rw [placed_snd]
      refine Lq.mono (fun a' h' => ?_) _ _ h
      intro B1 hB1 w' _ hb x1
      simp only [updB_same] at x1
      exact h' B1 w' hB1 hb x1)
  have hfuel : n + 1 + (l.drop (n + 1)).length = l.toArray.size := by simp; omega
  rw [hfuel] at H
  exact H


end

end Go.Proofs.Ytpddkhhdleknnaa
