/- Several texts in one, each with its own head. -/
import Derived.Test.YtpddkhhdleknnaaZ22
import Derived.Shelf.SlGeneric
import Derived.Shelf.SlSortCmp.WholeK
import Derived.Shelf.SlSortCmp.NoneTotal
import Derived.Shelf.SlicesQ.IndexFunc
import Derived.Shelf.SlicesG.Cmp
import Derived.Ground.SlsfProg
import Derived.Ground.SlgcProg
import Derived.Ground.SlgfProg
import Derived.Test.YtpddkhhdleknnaaProg
/- Regions that draw their order, whose head only reads and calls what keeps all that there is, but for one call at its end which tells something new; in the round of a range over a function, and outside of one. Nothing here speaks of one program. -/
namespace Go.Proofs.Ytpddkhhdleknnaa
open Go.RowKit

section
variable {P : Program} {ops : Array Oper} {W : World} {md : Region.Mode}

/-- A call, or a value in new memory: all that there was is kept, and Post says what has come. -/
def mkOut (P : Program) (w : World) (Post : Value → World → Prop) : Result Next → Prop
  | .ok (.value v) w' => Below w.heap.size w w' ∧ Post v w'
  | .ok (.enter f args) w' => w' = w ∧ Calls P f args w (fun e w'' => ∃ v, e = .returned v ∧ Below w.heap.size w w'' ∧ Post v w'')
  | _ => False

theorem Lq.world {E : Act → Prop} {W' : World} (hb : Below W.heap.size W W') : ∀ (l : List Oper) (a : Act), Lq P ops W E l a → Lq P ops W' E l a
  | [], _, h => h
  | _ :: l, _, ⟨v, hy, h⟩ => ⟨v, hy.imp (fun ⟨h1, h2⟩ => ⟨h1, fun n => h2 ⟨n.world, hb.trans (n.below.mono hb.size)⟩⟩) id, Lq.world hb l _ h⟩

/-- What is said of an operation from which they are apart can be said ahead of them. -/
theorem Lq.back {C : Sem Next → Prop} (j : Oper) (hj : ∀ cs b, j.op ≠ .select cs b) : ∀ (l : List Oper) (a : Act), (∀ p ∈ l, p.apart ops j = true) → Lq P ops W (fun a' => C (execOp a'.eval j)) l a → C (execOp a.eval j)
  | [], _, _, h => h
  | i :: l, a, hap, ⟨v, _, h⟩ => by
    have h1 := Lq.back j hj l (a.put i.dst v) (fun p hp => hap p (by simp [hp])) h
    rwa [execOp_put j hj a i.dst v (Oper.apart_spec (hap i (by simp))).1] at h1

theorem Stands.fresh {N : Nat} {ob : Nat → Obj} {listed : Array Bool} {w w' : World} {β : Nat → Nat} {pq : List (Nat × Oper)} (h : Stands P ops N W [] ob listed w β pq []) : Stands P ops N w' [] ob listed w' β pq [] :=
  { size := h.size, all := h.all, q := h.q, a := fun p hp => (by cases hp), qa := fun p _ r hr => (by cases hr), sq := h.sq, sa := List.Pairwise.nil, tail := h.tail, below := Below.refl _ _, rooms := fun p hp => (by cases hp), apart := fun p hp => (by cases hp) }

/-- The maker comes up. -/
theorem makerIn_step {Q' : Exit → Act → World → Prop} {N : Nat} (n : Nat) (o : Oper) (ob : Nat → Obj) (β : Nat → Nat) (tl : List Oper) (lr : Nat) (hnd : ∀ (i : Nat) (o : Oper) (c : Call), ops[i]? = some o → o.op ≠ .defer c) (S : Shape md ops N) (htl : ∀ j, tl[j]? = ops[N + j]?) (hseq : Region.seqB md ops tl.length N (headDone ops.size N) = true)
    (hg : o.guard = none) (Post : Value → World → Prop) (listed : Array Bool) (a : Act) (w : World) (pq : List (Nat × Oper)) (inv : HeadInv md ops N listed) (st : Stands P ops N W [] ob listed w β (pq ++ [(n, o)]) [])
    (hL : Lq P ops W (fun a' => (∀ m : After W, mkOut P m.world Post ((execOp a'.eval o).run P m.world)) ∧ ∀ v w'' w', Below W.heap.size W w'' → Post v w'' → Below w''.heap.size w'' w' → wpListIn (Fence.wide.inRound lr) 0 P ops Q' tl (a'.put o.dst v) w') (pq.map Prod.snd) a)
    (hi : n ∈ Region.ready md ops listed) : wpOpIn (Fence.wide.inRound lr) 0 P ops Q' n (wpAnyIn (Fence.wide.inRound lr) 0 P md ops Q' (pq.length + tl.length) (listed.setIfInBounds n true)) a w := by
  obtain ⟨hnN, hnl, hoi⟩ := st.q (n, o) (by simp)
  simp only at hnN hnl hoi
  have hlt : ∀ p ∈ pq, p.1 < n := fun p hp => by
    have := st.sq
    rw [List.pairwise_append] at this
    exact this.2.2 p hp (n, o) (by simp)
  have hap : ∀ p ∈ pq.map Prod.snd, p.apart ops o = true ∧ ∀ cs b, p.op ≠ .select cs b := fun p hp => by
    obtain ⟨r, hr, rfl⟩ := List.mem_map.1 hp
    obtain ⟨_, r2, r3⟩ := st.q r (by simp [hr])
    refine ⟨?_, fun cs b => S.sel r.1 r.2 cs b r3⟩
    rcases S.pair r.1 n r.2 o (hlt r hr) hnN r3 hoi with h | h
    · rw [not_waits hi r2] at h; cases h
    · exact h
  have hmk := Lq.back (C := fun s => ∀ m : After W, mkOut P m.world Post (s.run P m.world)) o (fun cs b => S.sel n o cs b hoi) (pq.map Prod.snd) a (fun p hp => (hap p hp).1) (Lq.mono (fun _ h => h.1) _ _ hL) ⟨w, st.below⟩
  have fin : ∀ v w'', Below w.heap.size w w'' → Post v w'' → wpAnyIn (Fence.wide.inRound lr) 0 P md ops Q' (pq.length + tl.length) (listed.setIfInBounds n true) (a.put o.dst v) w'' := fun v w'' hb hp => by
    have hbW : Below W.heap.size W w'' := st.below.trans (hb.mono st.below.size)
    have hst2 := (st.quiet (pre := pq) (post := []) (p := (n, o)) S.le hb).fresh (w' := w'')
    rw [List.append_nil] at hst2
    have hL2 := Lq.world hbW _ _ (Lq.put (E' := fun a' => ∀ w', Below w''.heap.size w'' w' → wpListIn (Fence.wide.inRound lr) 0 P ops Q' tl a' w') o v (fun a' h w' hb' => h.2 v w'' w' hbW hp hb') (pq.map Prod.snd) a hap hL)
    have H := boxesIn_any (P := P) (W := w'') (md := md) (Q' := Q') (F := fun _ a' => ∀ w', Below w''.heap.size w'' w' → wpListIn (Fence.wide.inRound lr) 0 P ops Q' tl a' w') [] ob tl lr hnd S htl hseq (fun p hp => by cases hp) (fun _ a' w' hF hb' _ _ => hF w' hb')
      (pq.length + 0) (listed.setIfInBounds n true) (a.put o.dst v) w'' β pq [] (by simp) (inv.set hi hnN) hst2 hL2
    exact H
  unfold wpOpIn
  simp only [hoi]
  rw [if_pos (by simp [Region.wanted, hg])]
  unfold Oper.wpIn
  refine ⟨fun _ _ => trivial, ?_⟩
  rw [Oper.semAt_plain _ _ _ (fun c => hnd _ _ c hoi)]
  simp only at hmk
  generalize (execOp a.eval o).run P w = res at *
  cases res with
  | ok nx w' =>
    cases nx <;> simp only [mkOut] at hmk <;> simp only [Oper.uponIn]
    case value u => exact fin u w' hmk.1 hmk.2
    case enter g args =>
      obtain ⟨rfl, hc⟩ := hmk
      refine ⟨fun h => (by simp [Fence.wide] at h), CallsIn.inRound _ ((callsIn_wide.2 hc).mono fun e w'' ⟨v, he, hb, hp⟩ => ?_)⟩
      subst he
      exact fin v w'' hb hp
  | halt x w' => simp only [mkOut] at hmk

/-- WHATEVER ORDER IS DRAWN, in a round, with one maker. -/
theorem makerIn_any {Q' : Exit → Act → World → Prop} {N : Nat} (n : Nat) (o : Oper) (ob : Nat → Obj) (β : Nat → Nat) (tl : List Oper) (lr : Nat) (hnd : ∀ (i : Nat) (o : Oper) (c : Call), ops[i]? = some o → o.op ≠ .defer c) (S : Shape md ops N) (htl : ∀ j, tl[j]? = ops[N + j]?) (hseq : Region.seqB md ops tl.length N (headDone ops.size N) = true)
    (hg : o.guard = none) (Post : Value → World → Prop) :
    ∀ (f : Nat) (listed : Array Bool) (a : Act) (w : World) (pq : List (Nat × Oper)), pq.length = f → HeadInv md ops N listed → Stands P ops N W [] ob listed w β (pq ++ [(n, o)]) [] →
      Lq P ops W (fun a' => (∀ m : After W, mkOut P m.world Post ((execOp a'.eval o).run P m.world)) ∧ ∀ v w'' w', Below W.heap.size W w'' → Post v w'' → Below w''.heap.size w'' w' → wpListIn (Fence.wide.inRound lr) 0 P ops Q' tl (a'.put o.dst v) w') (pq.map Prod.snd) a →
      wpAnyIn (Fence.wide.inRound lr) 0 P md ops Q' (f + tl.length + 1) listed a w := by
  intro f
  induction f with
  | zero =>
    intro listed a w pq hf inv st hL
    have e1 : pq = [] := List.length_eq_zero_iff.1 hf
    subst e1
    refine ⟨fun h0 => absurd h0 (st.ready S (by simp)), fun i hi => ?_⟩
    obtain ⟨hil, oi, hoi, hall⟩ := mem_ready.1 hi
    have hst := st.q (n, o) (by simp)
    have hiN : i < N := by
      rcases Nat.lt_or_ge i N with h | h
      · exact h
      · exact absurd hi (tail_waits S.sink S.chain S.lt inv _ n rfl hst.1 hst.2.1 i h)
    rcases st.all i hiN hil with ⟨p, hp, rfl⟩ | ⟨p, hp, rfl⟩
    · simp at hp
      subst hp
      exact makerIn_step n o ob β tl lr hnd S htl hseq hg Post listed a w [] inv st hL hi
    · cases hp
  | succ f ih =>
    intro listed a w pq hf inv st hL
    refine ⟨fun h0 => absurd h0 (st.ready S (by simp)), fun i hi => ?_⟩
    obtain ⟨hil, oi, hoi, hall⟩ := mem_ready.1 hi
    have hst := st.q (n, o) (by simp)
    have hiN : i < N := by
      rcases Nat.lt_or_ge i N with h | h
      · exact h
      · exact absurd hi (tail_waits S.sink S.chain S.lt inv _ n rfl hst.1 hst.2.1 i h)
    have hap : ∀ r : Nat × Oper, r.1 < i → listed.getD r.1 true = false → ops[r.1]? = some r.2 → r.2.apart ops oi = true := fun r hr hl ho => by
      rcases S.pair r.1 i r.2 oi hr hiN ho hoi with h | h
      · rw [not_waits hi hl] at h; cases h
      · exact h
    rcases st.all i hiN hil with ⟨p, hp, rfl⟩ | ⟨p, hp, rfl⟩
    · rcases List.mem_append.1 hp with hp | hp
      · unfold wpOpIn
        simp only [hoi]
        obtain ⟨pre, post, rfl⟩ := split_at hp
        obtain ⟨_, _, hpo⟩ := st.q p (by simp)
        have heq : oi = p.2 := Option.some.inj (hoi.symm.trans hpo)
        subst heq
        have st' := st
        rw [List.append_assoc, List.cons_append] at st'
        have m1 := (pair_mid st'.sq).1
        have hL' := hL
        rw [List.map_append, List.map_cons] at hL'
        obtain ⟨v, hy, hR⟩ := Lq.pick p.2 (post.map Prod.snd) (fun cs b => S.sel p.1 p.2 cs b hoi) (pre.map Prod.snd) a (fun o ho => by
          obtain ⟨r, hr, rfl⟩ := List.mem_map.1 ho
          obtain ⟨_, r2, r3⟩ := st.q r (by simp [hr])
          exact ⟨hap r (m1 r hr) r2 r3, fun cs b => S.sel r.1 r.2 cs b r3⟩) hL'
        rw [← List.map_append] at hR
        have hlen : (pre ++ post).length = f := by simp at hf ⊢; omega
        have hnext : ∀ w'', Below w.heap.size w w'' → wpAnyIn (Fence.wide.inRound lr) 0 P md ops Q' (f + tl.length + 1) (listed.setIfInBounds p.1 true) (a.put p.2.dst v) w'' := fun w'' hb => by
          have st2 := st'.quiet S.le hb
          rw [← List.append_assoc] at st2
          exact ih _ _ _ _ hlen (inv.set hi hiN) st2 hR
        rw [show f + 1 + tl.length = f + tl.length + 1 by omega]
        rcases hy with ⟨hw, hm⟩ | ⟨hw, rfl⟩
        · rw [if_pos hw]
          have h3 := hm ⟨w, st.below⟩
          unfold Oper.wpIn
          refine ⟨fun _ _ => trivial, ?_⟩
          rw [Oper.semAt_plain _ _ _ (fun c => hnd _ _ c hoi)]
          simp only at h3
          generalize (execOp a.eval p.2).run P w = res at *
          cases res with
          | ok nx w' =>
            cases nx <;> simp only [mkUpon] at h3 <;> simp only [Oper.uponIn]
            case value u =>
              obtain ⟨e1, e2⟩ := h3
              rw [e1, e2]
              exact hnext _ (Below.refl _ _)
            case skip =>
              obtain ⟨e1, e2⟩ := h3
              rw [e1, ← e2]
              exact hnext _ (Below.refl _ _)
            case enter g args =>
              obtain ⟨e1, hc⟩ := h3
              rw [e1]
              refine ⟨fun h => (by simp [Fence.wide] at h), CallsIn.inRound _ ((callsIn_wide.2 hc).mono fun e w'' ⟨he, hb⟩ => ?_)⟩
              subst he
              exact hnext _ hb
          | halt x w' => simp only [mkUpon] at h3
        · rw [if_neg (by rw [hw]; exact Bool.false_ne_true)]
          exact ⟨fun _ _ => trivial, hnext _ (Below.refl _ _)⟩
      · simp at hp
        subst hp
        rw [show f + 1 + tl.length = pq.length + tl.length by omega]
        exact makerIn_step n o ob β tl lr hnd S htl hseq hg Post listed a w pq inv st hL hi
    · cases hp

end

section
variable {P : Program}

/-- A region in a round, whose head ends in a call that tells something new. -/
theorem wpIn_region_maker {id : Nat} {Q : Exit → Act → World → Prop} {a : Act} {w : World} {l : List Oper} (n : Nat) (o1 : Oper) (Post : Value → World → Prop) (lr : Nat) (hnd : noDefer l = true) (hm : P.follows .mixedOrders = true) (hS : shapeB .any l.toArray (n + 1) = true)
    (hseq : Region.seqB .any l.toArray (l.drop (n + 1)).length (n + 1) (headDone l.toArray.size (n + 1)) = true) (h1 : l[n]? = some o1) (hg1 : o1.guard = none)
    (h : Lq P l.toArray w (fun a' => (∀ m : After w, mkOut P m.world Post ((execOp a'.eval o1).run P m.world)) ∧ ∀ v w'' w', Below w.heap.size w w'' → Post v w'' → Below w''.heap.size w'' w' → wpListIn (Fence.wide.inRound lr) 0 P l.toArray Q (l.drop (n + 1)) (a'.put o1.dst v) w') (l.take n) a) :
    (Code.region id l.toArray true).wpIn (Fence.wide.inRound lr) 0 P Q a w := by
  have S := shape_of hS
  have hle : n + 1 ≤ l.length := by simpa using S.le
  have htake : (l.take n).length = n := by simp; omega
  refine wpIn_region_any hm ?_
  have H := makerIn_any (P := P) (W := w) (md := .any) (Q' := Q) n o1 (fun _ => default) (fun _ => 0) (l.drop (n + 1)) lr (noDefer_spec hnd) S (fun j => by simp [List.getElem?_drop]) hseq hg1 Post
    n (Array.replicate l.toArray.size false) a { w with drawn := w.drawn + 1 } (placed 0 (l.take n)) (by rw [placed_len, htake])
    ⟨by simp, fun j oj _ hl => (by rw [getD_replicate_false] at hl; cases hl), fun t _ ht => getD_in (by simpa using ht) (getD_replicate_false _ _)⟩
    { size := by simp
      all := fun i hi _ => Or.inl (by
        by_cases e : i < n
        · obtain ⟨p, hp, he⟩ := placed_all (l.take n) 0 i (by omega) (by rw [htake]; omega)
          exact ⟨p, by simp [hp], he⟩
        · exact ⟨(n, o1), by simp, by simp only; omega⟩)
      q := fun p hp => by
        rcases List.mem_append.1 hp with hp | hp
        · obtain ⟨p1, p2, p3⟩ := placed_mem _ 0 p hp
          rw [htake] at p2
          refine ⟨by omega, ?_, ?_⟩
          · exact getD_in (by simp; omega) (getD_replicate_false _ _)
          · rw [Nat.sub_zero, List.getElem?_take, if_pos (by omega)] at p3
            simpa using p3
        · simp at hp
          subst hp
          exact ⟨by simp, getD_in (by simp; omega) (getD_replicate_false _ _), by simpa using h1⟩
      a := fun p hp => by cases hp
      qa := fun p hp r hr => by cases hr
      sq := List.pairwise_append.2 ⟨placed_sorted _ _, by simp, fun p hp r hr => by
        have p2 := (placed_mem _ 0 p hp).2.1
        rw [htake] at p2
        simp at hr
        subst hr
        simp only
        omega⟩
      sa := List.Pairwise.nil
      tail := fun t _ ht => getD_in (by simpa using ht) (getD_replicate_false _ _)
      below := ⟨rfl, rfl, rfl, Nat.le_refl _, fun _ _ => rfl⟩
      rooms := fun p hp => by cases hp
      apart := fun p hp _ _ _ _ _ => by cases hp }
    (by rw [placed_snd]; exact h)
  have hfuel : n + (l.drop (n + 1)).length + 1 = l.toArray.size := by simp; omega
  rw [hfuel] at H
  exact H

end

end Go.Proofs.Ytpddkhhdleknnaa

/- The library's sort, compare, index and contains, laid at this program: each field a fact of the program, compared by the kernel. -/
namespace Go.Proofs
open Go.Shelf
def Try.sortL_ren : Go.Shelf.Ren := ⟨fun | 6 => 133 | 15 => 138 | 14 => 137 | 28 => 148 | 29 => 149 | 20 => 140 | 21 => 141 | 22 => 142 | 23 => 143 | 24 => 144 | 25 => 145 | 26 => 146 | 27 => 147 | 46 => 150 | 47 => 151 | 48 => 152 | 49 => 153 | 50 => 154 | 57 => 155 | n => n, fun | 22 => 125 | 24 => 136 | 25 => 146 | 3 => 3 | 39 => 150 | 0 => 0 | 53 => 49 | 55 => 161 | 4 => 4 | 46 => 153 | 45 => 152 | 50 => 157 | 5 => 5 | 9 => 9 | 66 => 162 | 70 => 166 | 76 => 168 | 77 => 115 | n => n, fun | n => n⟩
theorem Try.sortL : Go.Proofs.SlLaysF0.n6 Try.prog Try.sortL_ren := {
  mixed := by kernel_rfl
  f6 := ⟨Try.f133.name, by decide, Try.func133.trans (congrArg some (by kernel_rfl))⟩
  f14 := ⟨Try.f137.name, by decide, Try.func137.trans (congrArg some (by kernel_rfl))⟩
  f15 := Try.func138.trans (congrArg some (by kernel_rfl))
  f20 := ⟨Try.f140.name, by decide, Try.func140.trans (congrArg some (by kernel_rfl))⟩
  f21 := ⟨Try.f141.name, by decide, Try.func141.trans (congrArg some (by kernel_rfl))⟩
  f22 := ⟨Try.f142.name, by decide, Try.func142.trans (congrArg some (by kernel_rfl))⟩
  f23 := ⟨Try.f143.name, by decide, Try.func143.trans (congrArg some (by kernel_rfl))⟩
  f24 := ⟨Try.f144.name, by decide, Try.func144.trans (congrArg some (by kernel_rfl))⟩
  f25 := ⟨Try.f145.name, by decide, Try.func145.trans (congrArg some (by kernel_rfl))⟩
  f26 := ⟨Try.f146.name, by decide, Try.func146.trans (congrArg some (by kernel_rfl))⟩
  f27 := ⟨Try.f147.name, by decide, Try.func147.trans (congrArg some (by kernel_rfl))⟩
  f28 := Try.func148.trans (congrArg some (by kernel_rfl))
  f29 := Try.func149.trans (congrArg some (by kernel_rfl))
  f46 := ⟨Try.f150.name, by decide, Try.func150.trans (congrArg some (by kernel_rfl))⟩
  f47 := Try.func151.trans (congrArg some (by kernel_rfl))
  f48 := Try.func152.trans (congrArg some (by kernel_rfl))
  f49 := ⟨Try.f153.name, by decide, Try.func153.trans (congrArg some (by kernel_rfl))⟩
  f50 := ⟨Try.f154.name, by decide, Try.func154.trans (congrArg some (by kernel_rfl))⟩
  f57 := ⟨Try.f155.name, by decide, Try.func155.trans (congrArg some (by kernel_rfl))⟩
  t0 := Try.underlying0
  a0 := Try.isAgg0
  z0 := Try.sizeOf0
  v0 := Try.zeroValue0
  t3 := Try.underlying3
  a3 := Try.isAgg3
  z3 := Try.sizeOf3
  v3 := Try.zeroValue3
  t4 := Try.underlying4
  a4 := Try.isAgg4
  z4 := Try.sizeOf4
  v4 := Try.zeroValue4
  t5 := Try.underlying5
  a5 := Try.isAgg5
  z5 := Try.sizeOf5
  v5 := Try.zeroValue5
  t9 := Try.underlying9
  a9 := Try.isAgg9
  z9 := Try.sizeOf9
  v9 := Try.zeroValue9
  t22 := Try.underlying125
  a22 := Try.isAgg125
  z22 := Try.sizeOf125
  v22 := Try.zeroValue125
  t25 := Try.underlying146
  a25 := Try.isAgg146
  z25 := Try.sizeOf146
  v25 := Try.zeroValue146
  t39 := Try.underlying150
  a39 := Try.isAgg150
  z39 := Try.sizeOf150
  v39 := Try.zeroValue150
  t45 := Try.underlying152
  a45 := Try.isAgg152
  z45 := Try.sizeOf152
  v45 := Try.zeroValue152
  t46 := Try.underlying153
  a46 := Try.isAgg153
  z46 := Try.sizeOf153
  v46 := Try.zeroValue153
  t50 := Try.underlying157
  a50 := Try.isAgg157
  z50 := Try.sizeOf157
  v50 := Try.zeroValue157
  t53 := Try.underlying49
  a53 := Try.isAgg49
  z53 := Try.sizeOf49
  v53 := Try.zeroValue49
  t55 := Try.underlying161
  a55 := Try.isAgg161
  z55 := Try.sizeOf161
  v55 := Try.zeroValue161
  t66 := Try.underlying162
  a66 := Try.isAgg162
  z66 := Try.sizeOf162
  v66 := Try.zeroValue162
  t70 := Try.underlying166
  a70 := Try.isAgg166
  z70 := Try.sizeOf166
  v70 := Try.zeroValue166
  t76 := Try.underlying168
  a76 := Try.isAgg168
  z76 := Try.sizeOf168
  v76 := Try.zeroValue168
  t77 := Try.underlying115
  a77 := Try.isAgg115
  z77 := Try.sizeOf115
  v77 := Try.zeroValue115 }
def Try.cmpL_ren : Go.Shelf.Ren := ⟨fun | 5 => 135 | 7 => 139 | n => n, fun | 22 => 3 | 3 => 3 | 4 => 4 | n => n, fun | n => n⟩
theorem Try.cmpL : Go.Proofs.SlLaysC2.n5 Try.prog Try.cmpL_ren := {
  mixed := by kernel_rfl
  f5 := ⟨Try.f135.name, by decide, Try.func135.trans (congrArg some (by kernel_rfl))⟩
  f7 := ⟨Try.f139.name, by decide, Try.func139.trans (congrArg some (by kernel_rfl))⟩
  t3 := Try.underlying3
  a3 := Try.isAgg3
  z3 := Try.sizeOf3
  v3 := Try.zeroValue3
  t4 := Try.underlying4
  a4 := Try.isAgg4
  z4 := Try.sizeOf4
  v4 := Try.zeroValue4
  t22 := Try.underlying3
  a22 := Try.isAgg3
  z22 := Try.sizeOf3
  v22 := Try.zeroValue3 }
def Try.idxL_ren : Go.Shelf.Ren := ⟨fun | 6 => 136 | n => n, fun | 22 => 125 | 23 => 136 | 25 => 142 | 3 => 3 | 0 => 0 | 4 => 4 | n => n, fun | n => n⟩
theorem Try.idxL : Go.Proofs.SlLaysH0.n6 Try.prog Try.idxL_ren := {
  mixed := by kernel_rfl
  f6 := ⟨Try.f136.name, by decide, Try.func136.trans (congrArg some (by kernel_rfl))⟩
  t0 := Try.underlying0
  a0 := Try.isAgg0
  z0 := Try.sizeOf0
  v0 := Try.zeroValue0
  t3 := Try.underlying3
  a3 := Try.isAgg3
  z3 := Try.sizeOf3
  v3 := Try.zeroValue3
  t4 := Try.underlying4
  a4 := Try.isAgg4
  z4 := Try.sizeOf4
  v4 := Try.zeroValue4
  t22 := Try.underlying125
  a22 := Try.isAgg125
  z22 := Try.sizeOf125
  v22 := Try.zeroValue125
  t25 := Try.underlying142
  a25 := Try.isAgg142
  z25 := Try.sizeOf142
  v25 := Try.zeroValue142 }
def Try.conL_ren : Go.Shelf.Ren := ⟨fun | 8 => 63 | 6 => 103 | n => n, fun | 22 => 22 | 23 => 30 | 25 => 86 | 4 => 4 | 3 => 3 | 0 => 0 | n => n, fun | n => n⟩
theorem Try.conL : Go.Proofs.SlLaysH0.n8 Try.prog Try.conL_ren := {
  mixed := by kernel_rfl
  f6 := ⟨Try.f103.name, by decide, Try.func103.trans (congrArg some (by kernel_rfl))⟩
  f8 := ⟨Try.f63.name, by decide, Try.func63.trans (congrArg some (by kernel_rfl))⟩
  t0 := Try.underlying0
  a0 := Try.isAgg0
  z0 := Try.sizeOf0
  v0 := Try.zeroValue0
  t3 := Try.underlying3
  a3 := Try.isAgg3
  z3 := Try.sizeOf3
  v3 := Try.zeroValue3
  t4 := Try.underlying4
  a4 := Try.isAgg4
  z4 := Try.sizeOf4
  v4 := Try.zeroValue4
  t22 := Try.underlying22
  a22 := Try.isAgg22
  z22 := Try.sizeOf22
  v22 := Try.zeroValue22
  t25 := Try.underlying86
  a25 := Try.isAgg86
  z25 := Try.sizeOf86
  v25 := Try.zeroValue86 }
end Go.Proofs
