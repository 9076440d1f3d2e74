/- Regions that draw their order, whose head only reads and calls what keeps all that there is, but for one call at its end which tells something new; in the round of a range over a function, and outside of one. Nothing here speaks of one program. -/
import Derived.Test.YtpddkhhdleknnaaY27
namespace Go.Proofs.Ytpddkhhdleknnaa
open Go.RowKit

section
variable {P : Program} {ops : Array Oper} {W : World} {md : Region.Mode}

/-- A call, or a value in new memory: all that there was is kept, and Post says what has come. -/
def mkOut (P : Program) (w : World) (Post : Value → World → Prop) : Result Next → Prop
  | .ok (.value v) w' => Below w.heap.size w w' ∧ Post v w'
  | .ok (.enter f args) w' => w' = w ∧ Calls P f args w (fun e w'' => ∃ v, e = .returned v ∧ Below w.heap.size w w'' ∧ Post v w'')
  | _ => False

theorem Lq.world {E : Act → Prop} {W' : World} (hb : Below W.heap.size W W') : ∀ (l : List Oper) (a : Act), Lq P ops W E l a → Lq P ops W' E l a
  | [], _, h => h
  | _ :: l, _, ⟨v, hy, h⟩ => ⟨v, hy.imp (fun ⟨h1, h2⟩ => ⟨h1, fun n => h2 ⟨n.world, hb.trans (n.below.mono hb.size)⟩⟩) id, Lq.world hb l _ h⟩

/-- What is said of an operation from which they are apart can be said ahead of them. -/
theorem Lq.back {C : Sem Next → Prop} (j : Oper) (hj : ∀ cs b, j.op ≠ .select cs b) : ∀ (l : List Oper) (a : Act), (∀ p ∈ l, p.apart ops j = true) → Lq P ops W (fun a' => C (execOp a'.eval j)) l a → C (execOp a.eval j)
  | [], _, _, h => h
  | i :: l, a, hap, ⟨v, _, h⟩ => by
    have h1 := Lq.back j hj l (a.put i.dst v) (fun p hp => hap p (by simp [hp])) h
    rwa [execOp_put j hj a i.dst v (Oper.apart_spec (hap i (by simp))).1] at h1

theorem Stands.fresh {N : Nat} {ob : Nat → Obj} {listed : Array Bool} {w w' : World} {β : Nat → Nat} {pq : List (Nat × Oper)} (h : Stands P ops N W [] ob listed w β pq []) : Stands P ops N w' [] ob listed w' β pq [] :=
  { size := h.size, all := h.all, q := h.q, a := fun p hp => (by cases hp), qa := fun p _ r hr => (by cases hr), sq := h.sq, sa := List.Pairwise.nil, tail := h.tail, below := Below.refl _ _, rooms := fun p hp => (by cases hp), apart := fun p hp => (by cases hp) }

/-- The maker comes up. -/
theorem makerIn_step {Q' : Exit → Act → World → Prop} {N : Nat} (n : Nat) (o : Oper) (ob : Nat → Obj) (β : Nat → Nat) (tl : List Oper) (lr : Nat) (hnd : ∀ (i : Nat) (o : Oper) (c : Call), ops[i]? = some o → o.op ≠ .defer c) (S : Shape md ops N) (htl : ∀ j, tl[j]? = ops[N + j]?) (hseq : Region.seqB md ops tl.length N (headDone ops.size N) = true)
    (hg : o.guard = none) (Post : Value → World → Prop) (listed : Array Bool) (a : Act) (w : World) (pq : List (Nat × Oper)) (inv : HeadInv md ops N listed) (st : Stands P ops N W [] ob listed w β (pq ++ [(n, o)]) [])
    (hL : Lq P ops W (fun a' => (∀ m : After W, mkOut P m.world Post ((execOp a'.eval o).run P m.world)) ∧ ∀ v w'' w', Below W.heap.size W w'' → Post v w'' → Below w''.heap.size w'' w' → wpListIn (Fence.wide.inRound lr) 0 P ops Q' tl (a'.put o.dst v) w') (pq.map Prod.snd) a)
    (hi : n ∈ Region.ready md ops listed) : wpOpIn (Fence.wide.inRound lr) 0 P ops Q' n (wpAnyIn (Fence.wide.inRound lr) 0 P md ops Q' (pq.length + tl.length) (listed.setIfInBounds n true)) a w := by
  obtain ⟨hnN, hnl, hoi⟩ := st.q (n, o) (by simp)
  simp only at hnN hnl hoi
  have hlt : ∀ p ∈ pq, p.1 < n := fun p hp => by
    have := st.sq
    rw [List.pairwise_append] at this
    exact this.2.2 p hp (n, o) (by simp)
  have hap : ∀ p ∈ pq.map Prod.snd, p.apart ops o = true ∧ ∀ cs b, p.op ≠ .select cs b := fun p hp => by
    obtain ⟨r, hr, rfl⟩ := List.mem_map.1 hp
    obtain ⟨_, r2, r3⟩ := st.q r (by simp [hr])
    refine ⟨?_, fun cs b => S.sel r.1 r.2 cs b r3⟩
    rcases S.pair r.1 n r.2 o (hlt r hr) hnN r3 hoi with h | h
    · rw [not_waits hi r2] at h; cases h
    · exact h
  have hmk := Lq.back (C := fun s => ∀ m : After W, mkOut P m.world Post (s.run P m.world)) o (fun cs b => S.sel n o cs b hoi) (pq.map Prod.snd) a (fun p hp => (hap p hp).1) (Lq.mono (fun _ h => h.1) _ _ hL) ⟨w, st.below⟩
  have fin : ∀ v w'', Below w.heap.size w w'' → Post v w'' → wpAnyIn (Fence.wide.inRound lr) 0 P md ops Q' (pq.length + tl.length) (listed.setIfInBounds n true) (a.put o.dst v) w'' := fun v w'' hb hp => by
    have hbW : Below W.heap.size W w'' := st.below.trans (hb.mono st.below.size)
    have hst2 := (st.quiet (pre := pq) (post := []) (p := (n, o)) S.le hb).fresh (w' := w'')
    rw [List.append_nil] at hst2
    have hL2 := Lq.world hbW _ _ (Lq.put (E' := fun a' => ∀ w', Below w''.heap.size w'' w' → wpListIn (Fence.wide.inRound lr) 0 P ops Q' tl a' w') o v (fun a' h w' hb' => h.2 v w'' w' hbW hp hb') (pq.map Prod.snd) a hap hL)
    have H := boxesIn_any (P := P) (W := w'') (md := md) (Q' := Q') (F := fun _ a' => ∀ w', Below w''.heap.size w'' w' → wpListIn (Fence.wide.inRound lr) 0 P ops Q' tl a' w') [] ob tl lr hnd S htl hseq (fun p hp => by cases hp) (fun _ a' w' hF hb' _ _ => hF w' hb')
      (pq.length + 0) (listed.setIfInBounds n true) (a.put o.dst v) w'' β pq [] (by simp) (inv.set hi hnN) hst2 hL2
    exact H
  unfold wpOpIn
  simp only [hoi]
  rw [if_pos (by simp [Region.wanted, hg])]
  unfold Oper.wpIn
  refine ⟨fun _ _ => trivial, ?_⟩
  rw [Oper.semAt_plain _ _ _ (fun c => hnd _ _ c hoi)]
  simp only at hmk
  generalize (execOp a.eval o).run P w = res at *
  cases res with
  | ok nx w' =>
    cases nx <;> simp only [mkOut] at hmk <;> simp only [Oper.uponIn]
    case value u => exact fin u w' hmk.1 hmk.2
    case enter g args =>
      obtain ⟨rfl, hc⟩ := hmk
      refine ⟨fun h => (by simp [Fence.wide] at h), CallsIn.inRound _ ((callsIn_wide.2 hc).mono fun e w'' ⟨v, he, hb, hp⟩ => ?_)⟩
      subst he
      exact fin v w'' hb hp
  | halt x w' => simp only [mkOut] at hmk

/-- WHATEVER ORDER IS DRAWN, in a round, with one maker. -/
theorem makerIn_any {Q' : Exit → Act → World → Prop} {N : Nat} (n : Nat) (o : Oper) (ob : Nat → Obj) (β : Nat → Nat) (tl : List Oper) (lr : Nat) (hnd : ∀ (i : Nat) (o : Oper) (c : Call), ops[i]? = some o → o.op ≠ .defer c) (S : Shape md ops N) (htl : ∀ j, tl[j]? = ops[N + j]?) (hseq : Region.seqB md ops tl.length N (headDone ops.size N) = true)
    (hg : o.guard = none) (Post : Value → World → Prop) :
    ∀ (f : Nat) (listed : Array Bool) (a : Act) (w : World) (pq : List (Nat × Oper)), pq.length = f → HeadInv md ops N listed → Stands P ops N W [] ob listed w β (pq ++ [(n, o)]) [] →
      Lq P ops W (fun a' => (∀ m : After W, mkOut P m.world Post ((execOp a'.eval o).run P m.world)) ∧ ∀ v w'' w', Below W.heap.size W w'' → Post v w'' → Below w''.heap.size w'' w' → wpListIn (Fence.wide.inRound lr) 0 P ops Q' tl (a'.put o.dst v) w') (pq.map Prod.snd) a →
      wpAnyIn (Fence.wide.inRound lr) 0 P md ops Q' (f + tl.length + 1) listed a w := by
  intro f
  induction f with
  | zero =>
    intro listed a w pq hf inv st hL
    have e1 : pq = [] := List.length_eq_zero_iff.1 hf
    subst e1
    refine ⟨fun h0 => absurd h0 (st.ready S (by simp)), fun i hi => ?_⟩
    obtain ⟨hil, oi, hoi, hall⟩ := mem_ready.1 hi
    have hst := st.q (n, o) (by simp)
    have hiN : i < N := by
      rcases Nat.lt_or_ge i N with h | h
      · exact h
      · exact absurd hi (tail_waits S.sink S.chain S.lt inv _ n rfl hst.1 hst.2.1 i h)
    rcases st.all i hiN hil with ⟨p, hp, rfl⟩ | ⟨p, hp, rfl⟩
    · simp at hp
      subst hp
      exact makerIn_step n o ob β tl lr hnd S htl hseq hg Post listed a w [] inv st hL hi
    · cases hp
  | succ f ih =>
    intro listed a w pq hf inv st hL
    refine ⟨fun h0 => absurd h0 (st.ready S (by simp)), fun i hi => ?_⟩
    obtain ⟨hil, oi, hoi, hall⟩ := mem_ready.1 hi
    have hst := st.q (n, o) (by simp)
    have hiN : i < N := by
      rcases Nat.lt_or_ge i N with h | h
      · exact h
      · exact absurd hi (tail_waits S.sink S.chain S.lt inv _ n rfl hst.1 hst.2.1 i h)
    have hap : ∀ r : Nat × Oper, r.1 < i → listed.getD r.1 true = false → ops[r.1]? = some r.2 → r.2.apart ops oi = true := fun r hr hl ho => by
      rcases S.pair r.1 i r.2 oi hr hiN ho hoi with h | h
      · rw [not_waits hi hl] at h; cases h
      · exact h
    rcases st.all i hiN hil with ⟨p, hp, rfl⟩ | ⟨p, hp, rfl⟩
    · rcases List.mem_append.1 hp with hp | hp
      · unfold wpOpIn
        simp only [hoi]
        obtain ⟨pre, post, rfl⟩ := split_at hp
        obtain ⟨_, _, hpo⟩ := st.q p (by simp)
        have heq : oi = p.2 := Option.some.inj (hoi.symm.trans hpo)
        subst heq
        have st' := st
        rw [List.append_assoc, List.cons_append] at st'
        have m1 := (pair_mid st'.sq).1
        have hL' := hL
        rw [List.map_append, List.map_cons] at hL'
        obtain ⟨v, hy, hR⟩ := Lq.pick p.2 (post.map Prod.snd) (fun cs b => S.sel p.1 p.2 cs b hoi) (pre.map Prod.snd) a (fun o ho => by
          obtain ⟨r, hr, rfl⟩ := List.mem_map.1 ho
          obtain ⟨_, r2, r3⟩ := st.q r (by simp [hr])
          exact ⟨hap r (m1 r hr) r2 r3, fun cs b => S.sel r.1 r.2 cs b r3⟩) hL'
        rw [← List.map_append] at hR
        have hlen : (pre ++ post).length = f := by simp at hf ⊢; omega
        have hnext : ∀ w'', Below w.heap.size w w'' → wpAnyIn (Fence.wide.inRound lr) 0 P md ops Q' (f + tl.length + 1) (listed.setIfInBounds p.1 true) (a.put p.2.dst v) w'' := fun w'' hb => by
          have st2 := st'.quiet S.le hb
          rw [← List.append_assoc] at st2
          exact ih _ _ _ _ hlen (inv.set hi hiN) st2 hR
        rw [show f + 1 + tl.length = f + tl.length + 1 by omega]
        rcases hy with ⟨hw, hm⟩ | ⟨hw, rfl⟩
        · rw [if_pos hw]
          have h3 := hm ⟨w, st.below⟩
          unfold Oper.wpIn
          refine ⟨fun _ _ => trivial, ?_⟩
          rw [Oper.semAt_plain _ _ _ (fun c => hnd _ _ c hoi)]
          simp only at h3
          generalize (execOp a.eval p.2).run P w = res at *
          cases res with
          | ok nx w' =>
            cases nx <;> simp only [mkUpon] at h3 <;> simp only [Oper.uponIn]
            case value u =>
              obtain ⟨e1, e2⟩ := h3
              rw [e1, e2]
              exact hnext _ (Below.refl _ _)
            case skip =>
              obtain ⟨e1, e2⟩ := h3
              rw [e1, ← e2]
              exact hnext _ (Below.refl _ _)
            case enter g args =>
              obtain ⟨e1, hc⟩ := h3
              rw [e1]
              refine ⟨fun h => (by simp [Fence.wide] at h), CallsIn.inRound _ ((callsIn_wide.2 hc).mono fun e w'' ⟨he, hb⟩ => ?_)⟩
              subst he
              exact hnext _ hb
          | halt x w' => simp only [mkUpon] at h3
        · rw [if_neg (by rw [hw]; exact Bool.false_ne_true)]
          exact ⟨fun _ _ => trivial, hnext _ (Below.refl _ _)⟩
      · simp at hp
        subst hp
        rw [show f + 1 + tl.length = pq.length + tl.length by omega]
        exact makerIn_step n o ob β tl lr hnd S htl hseq hg Post listed a w pq inv st hL hi
    · cases hp

end

section
variable {P : Program}

/-- A region in a round, whose head ends in a call that tells something new. -/
theorem wpIn_region_maker {id : Nat} {Q : Exit → Act → World → Prop} {a : Act} {w : World} {l : List Oper} (n : Nat) (o1 : Oper) (Post : Value → World → Prop) (lr : Nat) (hnd : noDefer l = true) (hm : P.follows .mixedOrders = true) (hS : shapeB .any l.toArray (n + 1) = true)
    (hseq : Region.seqB .any l.toArray (l.drop (n + 1)).length (n + 1) (headDone l.toArray.size (n + 1)) = true) (h1 : l[n]? = some o1) (hg1 : o1.guard = none)
    (h : Lq P l.toArray w (fun a' => (∀ m : After w, mkOut P m.world Post ((execOp a'.eval o1).run P m.world)) ∧ ∀ v w'' w', Below w.heap.size w w'' → Post v w'' → Below w''.heap.size w'' w' → wpListIn (Fence.wide.inRound lr) 0 P l.toArray Q (l.drop (n + 1)) (a'.put o1.dst v) w') (l.take n) a) :
    (Code.region id l.toArray true).wpIn (Fence.wide.inRound lr) 0 P Q a w := by
  have S := shape_of hS
  have hle : n + 1 ≤ l.length := by simpa using S.le
  have htake : (l.take n).length = n := by simp; omega
  refine wpIn_region_any hm ?_
  have H := makerIn_any (P := P) (W := w) (md := .any) (Q' := Q) n o1 (fun _ => default) (fun _ => 0) (l.drop (n + 1)) lr (noDefer_spec hnd) S (fun j => by simp [List.getElem?_drop]) hseq hg1 Post
    n (Array.replicate l.toArray.size false) a { w with drawn := w.drawn + 1 } (placed 0 (l.take n)) (by rw [placed_len, htake])
    ⟨by simp, fun j oj _ hl => (by rw [getD_replicate_false] at hl; cases hl), fun t _ ht => getD_in (by simpa using ht) (getD_replicate_false _ _)⟩
    { size := by simp
      all := fun i hi _ => Or.inl (by
        by_cases e : i < n
        · obtain ⟨p, hp, he⟩ := placed_all (l.take n) 0 i (by omega) (by rw [htake]; omega)
          exact ⟨p, by simp [hp], he⟩
        · exact ⟨(n, o1), by simp, by simp only; omega⟩)
      q := fun p hp => by
        rcases List.mem_append.1 hp with hp | hp
        · obtain ⟨p1, p2, p3⟩ := placed_mem _ 0 p hp
          rw [htake] at p2
          refine ⟨by omega, ?_, ?_⟩
          · exact getD_in (by simp; omega) (getD_replicate_false _ _)
          · rw [Nat.sub_zero, List.getElem?_take, if_pos (by omega)] at p3
            simpa using p3
        · simp at hp
          subst hp
          exact ⟨by simp, getD_in (by simp; omega) (getD_replicate_false _ _), by simpa using h1⟩
      a := fun p hp => by cases hp
      qa := fun p hp r hr => by cases hr
      sq := List.pairwise_append.2 ⟨placed_sorted _ _, by simp, fun p hp r hr => by
        have p2 := (placed_mem _ 0 p hp).2.1
        rw [htake] at p2
        simp at hr
        subst hr
        simp only
        omega⟩
      sa := List.Pairwise.nil
      tail := fun t _ ht => getD_in (by simpa using ht) (getD_replicate_false _ _)
      below := ⟨rfl, rfl, rfl, Nat.le_refl _, fun _ _ => rfl⟩
      rooms := fun p hp => by cases hp
      apart := fun p hp _ _ _ _ _ => by cases hp }
    (by rw [placed_snd]; exact h)
  have hfuel : n + (l.drop (n + 1)).length + 1 = l.toArray.size := by simp; omega
  rw [hfuel] at H
  exact H

end

end Go.Proofs.Ytpddkhhdleknnaa
