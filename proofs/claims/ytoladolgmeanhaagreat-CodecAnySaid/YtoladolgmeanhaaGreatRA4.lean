/- Several texts in one, each with its own head. -/
import Derived.Test.YtoladolgmeanhaaGreatRA3
import Derived.BigQuiet
import Derived.BigRegion
import Derived.ProofKit
import Derived.Lib.SmallJoins
import Derived.Deep.Slices
namespace Go.Proofs.YtoladolgmeanhaaGreat
open Go.RowKit
section
variable {P : Program} {ops : Array Oper} {md : Region.Mode}
structure ShapeG (md : Region.Mode) (ops : Array Oper) (M : Nat) : Prop where
  sel : ∀ (j : Nat) (o : Oper) cs b, ops[j]? = some o → o.op ≠ .select cs b
  pair : ∀ (i j : Nat) (oi oj : Oper), i < j → j < M → ops[i]? = some oi → ops[j]? = some oj → Region.waitsFor md ops j i = true ∨ oi.apart ops oj = true
  sink : ∀ i, i < M - 1 → ∃ j, i < j ∧ j < M ∧ Region.waitsFor md ops j i = true
  tail : ∀ t, M ≤ t → t < ops.size → ∃ k, M - 1 ≤ k ∧ k < t ∧ Region.waitsFor md ops t k = true
  back : ∀ (i : Nat) (o : Oper), i < M → ops[i]? = some o → ∀ e ∈ o.after, Region.binds md e = true → e.on < i
  lt : M < ops.size
def shapeG (md : Region.Mode) (ops : Array Oper) (N : Nat) : Bool :=
  Region.noSelect ops && (decide (N < ops.size) &&
  (((List.range N).all fun j => (List.range j).all fun i => Region.waitsFor md ops j i || (match ops[i]?, ops[j]? with | some oi, some oj => oi.apart ops oj | _, _ => false)) &&
  ((((List.range (N - 1)).all fun i => (List.range N).any fun j => decide (i < j) && Region.waitsFor md ops j i) &&
    ((List.range ops.size).all fun t => decide (t < N) || (List.range t).any fun k => decide (N - 1 ≤ k) && Region.waitsFor md ops t k)) &&
  ((List.range N).all fun i => match ops[i]? with | some o => o.after.all (fun e => !Region.binds md e || decide (e.on < i)) | none => false))))
theorem shapeG_of {N : Nat} (h : shapeG md ops N = true) : ShapeG md ops N := by
  simp only [shapeG, Bool.and_eq_true] at h
  obtain ⟨h1, h2, h3, ⟨h4, h4'⟩, h5⟩ := h
  refine ⟨fun j o cs b ho => Region.noSelect_spec h1 j o cs b ho, fun i j oi oj hij hj hi' hj' => ?_, fun i hi => ?_, fun t ht hs => ?_, fun i o hi ho e he hb => ?_, by simpa using h2⟩
  · have := List.all_eq_true.1 (List.all_eq_true.1 h3 j (List.mem_range.2 hj)) i (List.mem_range.2 hij)
    rw [hi', hj'] at this
    simpa using this
  · obtain ⟨j, hj, h⟩ := List.any_eq_true.1 (List.all_eq_true.1 h4 i (List.mem_range.2 hi))
    rw [Bool.and_eq_true, decide_eq_true_eq] at h
    exact ⟨j, h.1, List.mem_range.1 hj, h.2⟩
  · have := List.all_eq_true.1 h4' t (List.mem_range.2 hs)
    rw [Bool.or_eq_true, decide_eq_true_eq] at this
    rcases this with h | h
    · omega
    · obtain ⟨k, hk, h⟩ := List.any_eq_true.1 h
      rw [Bool.and_eq_true, decide_eq_true_eq] at h
      exact ⟨k, h.1, List.mem_range.1 hk, h.2⟩
  · have := List.all_eq_true.1 h5 i (List.mem_range.2 hi)
    rw [ho] at this
    have h6 := Array.all_eq_true'.1 this e he
    rw [hb] at h6
    simpa using h6
theorem ShapeG.waits {M : Nat} (S : ShapeG md ops M) {listed : Array Bool} (inv : HeadInv md ops M listed) {i : Nat} (hi : i < M) (hl : listed.getD i true = false) {t : Nat} (ht : t ∈ Region.ready md ops listed) : t < M := by
  rcases Nat.lt_or_ge t M with h | h
  · exact h
  exfalso
  obtain ⟨-, ot, hot, hall⟩ := mem_ready.1 ht
  have hts : t < ops.size := (Array.getElem?_eq_some_iff.1 hot).1
  obtain ⟨k, k1, k2, k3⟩ := S.tail t h hts
  obtain ⟨oj, hoj, e, he, hb, hon⟩ := Region.waitsFor_spec k3
  rw [hot] at hoj
  cases hoj
  have hkl := hall e he hb
  rw [hon] at hkl
  have hkM : k = M - 1 := by
    rcases Nat.lt_or_ge k M with h | h
    · omega
    · have := getD_both (inv.tail k h (by omega))
      rw [this] at hkl; cases hkl
  subst hkM
  have key : ∀ d i, i + d = M - 1 → listed.getD i false = true := by
    intro d
    induction d using Nat.strongRecOn with
    | _ d ih =>
      intro i hid
      rcases Nat.eq_zero_or_pos d with h0 | h0
      · obtain rfl : i = M - 1 := by omega
        exact hkl
      · obtain ⟨j, j1, j2, j3⟩ := S.sink i (by omega)
        have hj := ih (M - 1 - j) (by omega) j (by omega)
        obtain ⟨oj, hoj, e, he, hb, hon⟩ := Region.waitsFor_spec j3
        have := inv.closed j oj hoj hj e he hb
        rwa [hon] at this
  have := key (M - 1 - i) i (by omega)
  rw [getD_both hl] at this
  cases this
def ChG (P : Program) (ops : Array Oper) (C : World → Prop) (E : (World → Prop) → Act → Prop) : List Oper → (World → Prop) → Act → Prop
  | [], Kn, a => E Kn a
  | o :: rest, Kn, a => Region.wanted o (yielded ops a.tmps) = true ∧ ∃ Po : Value → World → Prop, (∀ v, StaysC (Po v)) ∧ (∀ w, C w → Kn w → spOut P C Po w ((execOp a.eval o).run P w)) ∧ ∀ v, ChG P ops C E rest (Po v) (a.put o.dst v)
theorem ChG.pick {C : World → Prop} {E : (World → Prop) → Act → Prop} (j : Oper) (post : List Oper) (hj : ∀ cs b, j.op ≠ .select cs b) : ∀ (pre : List Oper) (Kn : World → Prop) (a : Act), (∀ p ∈ pre, p.apart ops j = true ∧ ∀ cs b, p.op ≠ .select cs b) →
    LqC P ops C (fun a => ChG P ops C E (j :: post) Kn a) pre a → ∃ Po : Value → World → Prop, Region.wanted j (yielded ops a.tmps) = true ∧ (∀ v, StaysC (Po v)) ∧ (∀ w, C w → Kn w → spOut P C Po w ((execOp a.eval j).run P w)) ∧ ∀ v, LqC P ops C (fun a => ChG P ops C E post (Po v) a) pre (a.put j.dst v)
  | [], _, _, _, h => by
    obtain ⟨h0, Po, h1, h2, h3⟩ := h
    exact ⟨Po, h0, h1, h2, h3⟩
  | i :: pre, Kn, a, hap, h => by
    obtain ⟨vi, hyi, h'⟩ := h
    obtain ⟨Po, g0, g1, g2, g3⟩ := ChG.pick j post hj pre Kn (a.put i.dst vi) (fun p hp => hap p (by simp [hp])) h'
    obtain ⟨hi, hsi⟩ := hap i (by simp)
    obtain ⟨h1, h2, h3⟩ := Oper.apart_spec hi
    refine ⟨Po, (wanted_put j a i.dst vi h1) ▸ g0, g1, fun w hC hK => ?_, fun v => ⟨vi, hyi.of_same (execOp_put i hsi a j.dst v h3) (wanted_put i a j.dst v h3), ?_⟩⟩
    · have := g2 w hC hK
      rwa [execOp_put j hj a i.dst vi h1] at this
    · rw [← Act.put_comm a vi v h2]
      exact g3 v
theorem StandT.readyG {N M : Nat} {listed : Array Bool} {pq ps : List (Nat × Oper)} (S : ShapeG md ops M) (h : StandT ops N M listed pq ps) (hne : pq ≠ [] ∨ ps ≠ []) : Region.ready md ops listed ≠ [] := by
  have key : ∀ p : Nat × Oper, p.1 < M → listed.getD p.1 true = false → ops[p.1]? = some p.2 → (∀ i, i < p.1 → listed.getD i true = true) → Region.ready md ops listed ≠ [] := fun p h1 h2 h3 h4 e => by
    have : p.1 ∈ Region.ready md ops listed := mem_ready.2 ⟨h2, p.2, h3, fun e' he hb => by
      have hle := h.le
      have hlt := S.back p.1 p.2 h1 h3 e' he hb
      have := h4 _ hlt
      first
        | exact this
        | (rw [getD_any (by rw [h.size]; omega)] ; exact this)
        | (have hs : e'.on < listed.size := by (rw [h.size]; omega)
           simpa [hs] using this)⟩
    rw [e] at this
    cases this
  have low : ∀ k, (∀ p ∈ pq, k ≤ p.1) → (∀ p ∈ ps, k ≤ p.1) → k ≤ M → ∀ i, i < k → listed.getD i true = true := fun k h1 h2 hk i hi => by
    cases hl : listed.getD i true
    · rcases h.all i (by omega) hl with ⟨r, hr, e⟩ | ⟨r, hr, e⟩
      · have := h1 r hr; omega
      · have := h2 r hr; omega
    · rfl
  cases pq with
  | cons p rest =>
    obtain ⟨q1, q2, q3, q4⟩ := h.q p (by simp)
    refine key p q2 q3 q4 (low p.1 (fun r hr => ?_) (fun r hr => ?_) (by omega))
    · rcases List.mem_cons.1 hr with rfl | hr
      · exact Nat.le_refl _
      · exact Nat.le_of_lt ((List.pairwise_cons.1 h.sq).1 r hr)
    · have := (h.s r hr).1; omega
  | nil =>
    cases ps with
    | cons p rest =>
      obtain ⟨q1, q2, q3, q4⟩ := h.s p (by simp)
      refine key p q2 q3 q4 (low p.1 (fun r hr => by cases hr) (fun r hr => ?_) (by omega))
      rcases List.mem_cons.1 hr with rfl | hr
      · exact Nat.le_refl _
      · exact Nat.le_of_lt ((List.pairwise_cons.1 h.ss).1 r hr)
    | nil => rcases hne with h | h <;> exact absurd rfl h
theorem chainG_any {Q : Exit → Act → World → Prop} {C : World → Prop} {N M : Nat} (g : Nat) (S : ShapeG md ops M) (hsp : specB md ops N M = true) (hC : StaysC C) :
    ∀ (f : Nat) (listed : Array Bool) (a : Act) (w : World) (Kn : World → Prop) (pq ps : List (Nat × Oper)), pq.length + ps.length = f → HeadInv md ops M listed → StandT ops N M listed pq ps → C w → StaysC Kn → Kn w →
      LqC P ops C (fun a => ChG P ops C (fun Kn a => ∀ w, C w → Kn w → wpAny P md ops Q g (headDone ops.size M) a w) (ps.map Prod.snd) Kn a) (pq.map Prod.snd) a → wpAny P md ops Q (f + g) listed a w := by
  intro f
  induction f with
  | zero =>
    intro listed a w Kn pq ps hf inv st hw hst hk hL
    have e1 : pq = [] := List.length_eq_zero_iff.1 (by omega)
    have e2 : ps = [] := List.length_eq_zero_iff.1 (by omega)
    subst e1 e2
    rw [Nat.zero_add, st.done]
    exact hL w hw hk
  | succ f ih =>
    intro listed a w Kn pq ps hf inv st hw hst hk hL
    rw [show f + 1 + g = (f + g) + 1 by omega]
    refine ⟨fun h0 => absurd h0 (st.readyG S (by
      cases pq with
      | cons p _ => exact .inl (by simp)
      | nil =>
        cases ps with
        | cons p _ => exact .inr (by simp)
        | nil => simp at hf)), fun i hi => ?_⟩
    obtain ⟨hil, oi, hoi, hall⟩ := mem_ready.1 hi
    have hiN : i < M := by
      cases pq with
      | cons p _ => exact S.waits inv (st.q p (by simp)).2.1 (st.q p (by simp)).2.2.1 hi
      | nil =>
        cases ps with
        | cons p _ => exact S.waits inv (st.s p (by simp)).2.1 (st.s p (by simp)).2.2.1 hi
        | nil => simp at hf
    have hap : ∀ r : Nat × Oper, r.1 < i → listed.getD r.1 true = false → ops[r.1]? = some r.2 → r.1 < N ∧ r.2.apart ops oi = true := fun r hr hl ho => by
      refine ⟨?_, ?_⟩
      · rcases Nat.lt_or_ge r.1 N with h | h
        · exact h
        · have := spec_of hsp h hr hiN
          rw [not_waits hi hl] at this; cases this
      · rcases S.pair r.1 i r.2 oi hr hiN ho hoi with h | h
        · rw [not_waits hi hl] at h; cases h
        · exact h
    unfold wpOp
    simp only [hoi]
    rcases st.all i hiN hil with ⟨p, hp, rfl⟩ | ⟨p, hp, rfl⟩
    · obtain ⟨pre, post, rfl⟩ := split_at hp
      obtain ⟨_, _, _, hpo⟩ := st.q p hp
      have heq : oi = p.2 := Option.some.inj (hoi.symm.trans hpo)
      subst heq
      have m1 := (pair_mid st.sq).1
      rw [List.map_append, List.map_cons] at hL
      obtain ⟨v, hy, hR⟩ := LqC.pick p.2 (post.map Prod.snd) (fun cs b => S.sel p.1 p.2 cs b hoi) (pre.map Prod.snd) a (fun o ho => by
        obtain ⟨r, hr, rfl⟩ := List.mem_map.1 ho
        obtain ⟨_, _, r2, r3⟩ := st.q r (by simp [hr])
        exact ⟨(hap r (m1 r hr) r2 r3).2, fun cs b => S.sel r.1 r.2 cs b r3⟩) hL
      rw [← List.map_append] at hR
      have hlen : (pre ++ post).length + ps.length = f := by simp at hf ⊢; omega
      rcases hy with ⟨hwt, hm⟩ | ⟨hwt, rfl⟩
      · rw [if_pos hwt]
        refine Or.inl ?_
        have h3 := hm w hw
        unfold Oper.wp
        generalize (execOp a.eval p.2).run P w = res at *
        cases res with
        | ok nx w' =>
          cases nx <;> simp only [mkUpon] at h3 <;> simp only [Oper.upon]
          case value u =>
            obtain ⟨e1, e2⟩ := h3
            rw [e1, e2]
            exact ih _ _ _ _ _ _ hlen (inv.set hi hiN) st.quiet hw hst hk hR
          case skip =>
            obtain ⟨e1, e2⟩ := h3
            rw [e1, ← e2]
            exact ih _ _ _ _ _ _ hlen (inv.set hi hiN) st.quiet hw hst hk hR
          case enter g args =>
            obtain ⟨e1, hc⟩ := h3
            rw [e1]
            exact Calls.mono hc fun e w'' ⟨he, hb⟩ => by subst he; exact ih _ _ _ _ _ _ hlen (inv.set hi hiN) st.quiet (hC _ _ hw hb) hst (hst _ _ hk hb) hR
        | halt x w' => simp only [mkUpon] at h3
      · rw [if_neg (by rw [hwt]; exact Bool.false_ne_true)]
        exact ih _ _ _ _ _ _ hlen (inv.set hi hiN) st.quiet hw hst hk hR
    · obtain ⟨pre, post, rfl⟩ := split_at hp
      obtain ⟨_, _, _, hpo⟩ := st.s p hp
      have heq : oi = p.2 := Option.some.inj (hoi.symm.trans hpo)
      subst heq
      have hpre : pre = [] := by
        cases pre with
        | nil => rfl
        | cons r rest =>
          obtain ⟨r1, r2, r3, r4⟩ := st.s r (by simp)
          have h1 : r.1 < p.1 := (List.pairwise_cons.1 st.ss).1 p (by simp)
          have := (hap r h1 r3 r4).1
          omega
      subst hpre
      rw [List.nil_append] at hL st hf
      rw [List.map_cons] at hL
      obtain ⟨Po, g0, g1, g2, g3⟩ := ChG.pick p.2 (post.map Prod.snd) (fun cs b => S.sel p.1 p.2 cs b hoi) (pq.map Prod.snd) Kn a (fun o ho => by
        obtain ⟨r, hr, rfl⟩ := List.mem_map.1 ho
        obtain ⟨r1, _, r2, r3⟩ := st.q r hr
        have := (st.s p (by simp)).1
        exact ⟨(hap r (by omega) r2 r3).2, fun cs b => S.sel r.1 r.2 cs b r3⟩) hL
      have hlen : pq.length + post.length = f := by simp at hf ⊢; omega
      have hwt : Region.wanted p.2 (yielded ops a.tmps) = true := g0
      rw [if_pos hwt]
      refine Or.inl ?_
      have h3 := g2 w hw hk
      unfold Oper.wp
      generalize (execOp a.eval p.2).run P w = res at *
      cases res with
      | ok nx w' =>
        cases nx <;> simp only [spOut] at h3 <;> simp only [Oper.upon]
        case value u => exact ih _ _ _ _ _ _ hlen (inv.set hi hiN) st.special h3.1 (g1 u) h3.2 (g3 u)
        case skip => exact ih _ _ _ _ _ _ hlen (inv.set hi hiN) st.special h3.1 (g1 _) h3.2 (g3 _)
        case enter g args =>
          obtain ⟨e1, hc⟩ := h3
          rw [e1]
          exact Calls.mono hc fun e w'' ⟨v, he, hc, hp⟩ => by subst he; exact ih _ _ _ _ _ _ hlen (inv.set hi hiN) st.special hc (g1 v) hp (g3 v)
      | halt x w' => simp only [spOut] at h3
theorem ChG_call {C : World → Prop} {E : (World → Prop) → Act → Prop} {Kn : World → Prop} {a : Act} {o : Oper} {rest : List Oper} (hwt : Region.wanted o (yielded ops a.tmps) = true) (f : FuncId) (args : Array Value)
    (hrun : ∀ w, (execOp a.eval o).run P w = .ok (.enter f args) w) (Po : Value → World → Prop) (hst : ∀ v, StaysC (Po v))
    (hcall : ∀ w, C w → Kn w → Calls P f args w fun e w' => ∃ v, e = .returned v ∧ C w' ∧ Po v w')
    (h : ∀ v, ChG P ops C E rest (Po v) (a.put o.dst v)) : ChG P ops C E (o :: rest) Kn a := by
  refine ⟨hwt, Po, hst, fun w hw hk => ?_, h⟩
  rw [hrun w]
  exact ⟨rfl, hcall w hw hk⟩
end
theorem hd_true {s k j : Nat} (b : Bool) (hj : j < k) (_hk : k ≤ s) : (headDone s k).getD j b = true := by
  simp [headDone, hj, show j < k + (s - k) by omega]
theorem hd_false {s k j : Nat} (b : Bool) (hj : k ≤ j) (hs : j < s) : (headDone s k).getD j b = false := by
  simp [headDone, List.getElem_append, show ¬ j < k by omega, show j < k + (s - k) by omega]
theorem hd_size (s k : Nat) (h : k ≤ s) : (headDone s k).size = s := by simp [headDone]; omega
section
variable {P : Program}
theorem part_any {Q : Exit → Act → World → Prop} {a : Act} {w : World} {l : List Oper} (k n m : Nat) (C K0 : World → Prop) (hkn : decide (k ≤ n) = true) (hn : decide (n ≤ m) = true) (hS : shapeG .any l.toArray m = true) (hsp : specB .any l.toArray n m = true) (hC : StaysC C) (hw : C w) (hK : StaysC K0) (hk : K0 w)
    (h : LqC P l.toArray C (fun a => ChG P l.toArray C (fun Kn a => ∀ w, C w → Kn w → wpAny P .any l.toArray Q (l.length - m) (headDone l.length m) a w) ((l.take m).drop n) K0 a) ((l.take n).drop k) a) : wpAny P .any l.toArray Q (l.length - k) (headDone l.length k) a w := by
  have S := shapeG_of hS
  have hle : m < l.length := by simpa using S.lt
  have hkn := of_decide_eq_true hkn
  have hn := of_decide_eq_true hn
  have htake : ((l.take n).drop k).length = n - k := by simp; omega
  have hdrop : ((l.take m).drop n).length = m - n := by simp; omega
  have H := chainG_any (P := P) (Q := Q) (md := .any) (l.length - m) S hsp hC (m - k) (headDone l.length k) a w K0 (placed k ((l.take n).drop k)) (placed n ((l.take m).drop n)) (by rw [placed_len, placed_len, htake, hdrop]; omega)
    ⟨by rw [hd_size _ _ (by omega)]; simp, fun j oj hoj hl e he hb => by
      have hjk : j < k := by
        rcases Nat.lt_or_ge j k with h | h
        · exact h
        · have hj : j < l.length := by simpa using (Array.getElem?_eq_some_iff.1 hoj).1
          rw [hd_false _ h hj] at hl; cases hl
      have := S.back j oj (by omega) hoj e he hb
      exact hd_true _ (by omega) (by omega), fun t h1 h2 => hd_false _ (by omega) (by simpa using h2)⟩
    { size := by rw [hd_size _ _ (by omega)]; simp
      le := S.lt
      tail := fun t h1 h2 => hd_false _ (by omega) (by simpa using h2)
      all := fun i hi hl => by
        have hki : k ≤ i := by
          rcases Nat.lt_or_ge i k with h | h
          · rw [hd_true _ h (by omega)] at hl; cases hl
          · exact h
        by_cases e : i < n
        · exact Or.inl (placed_all _ k i (by omega) (by rw [htake]; omega))
        · exact Or.inr (placed_all _ n i (by omega) (by rw [hdrop]; omega))
      q := fun p hp => by
        obtain ⟨p1, p2, p3⟩ := placed_mem _ k p hp
        rw [htake] at p2
        refine ⟨by omega, by omega, hd_false _ (by omega) (by omega), ?_⟩
        rw [List.getElem?_drop, show k + (p.1 - k) = p.1 by omega, List.getElem?_take, if_pos (by omega)] at p3
        simpa using p3
      s := fun p hp => by
        obtain ⟨p1, p2, p3⟩ := placed_mem _ n p hp
        rw [hdrop] at p2
        refine ⟨p1, by omega, hd_false _ (by omega) (by omega), ?_⟩
        rw [List.getElem?_drop, show n + (p.1 - n) = p.1 by omega, List.getElem?_take, if_pos (by omega)] at p3
        simpa using p3
      sq := placed_sorted _ _
      ss := placed_sorted _ _ }
    hw hK hk
    (by
      rw [placed_snd, placed_snd]
      simpa using h)
  have hfuel : m - k + (l.length - m) = l.length - k := by omega
  rw [hfuel] at H
  exact H
theorem region_parts {id : Nat} {Q : Exit → Act → World → Prop} {a : Act} {w : World} {l : List Oper} (hm : P.follows .mixedOrders = true)
    (h : wpAny P .any l.toArray Q (l.length - 0) (headDone l.length 0) a { w with drawn := w.drawn + 1 }) : (Code.region id l.toArray true).wp P Q a w := by
  refine wp_region_any hm ?_
  have e : headDone l.length 0 = Array.replicate l.toArray.size false := by simp [headDone]
  rw [e] at h
  simpa using h
theorem part_quiet {Q : Exit → Act → World → Prop} {a : Act} {w : World} {l : List Oper} (m : Nat) (C : World → Prop) (hs : Region.noSelect l.toArray = true) (hB : Region.lexFrom .any l.toArray (l.length - m) m (headDone l.length m) = true) (hw : C w)
    (h : wpQuiet P l.toArray C (fun a' => ∀ w', C w' → Q .normal a' w') (l.drop m) a) : wpAny P .any l.toArray Q (l.length - m) (headDone l.length m) a w := by
  refine wpAny_of_quiet (C := C) (Q := fun a' => ∀ w', C w' → Q .normal a' w') (fun _ w' hw' h => h w' hw') _ _ _ _ hw ?_
  have := wpAnyQ_lex (P := P) (C := C) (md := .any) hs (l.drop m) m (headDone l.length m) a (by simp) (by simpa using hB) h
  simpa using this
end
end Go.Proofs.YtoladolgmeanhaaGreat

namespace Go.Proofs.YtoladolgmeanhaaGreat
open Go.RowKit
attribute [local go_sem] Oper.semAt_some
theorem cdE_256 {l S : List Nat} (hS : DefS (cdP l) S) : ∀ x ∈ (cdE l S).2, x < 256 := by
  obtain ⟨j, hj, e, his⟩ := cdE_is l S
  rw [e]
  obtain rfl | rfl | rfl | rfl : j = 0 ∨ j = 1 ∨ j = 2 ∨ j = 3 := by omega
  · exact cdP_256 l
  · intro x hx
    obtain ⟨r, hr, hx⟩ := List.mem_flatMap.1 hx
    have := rl_ok l r hr
    unfold RlOk at this
    simp only [rlB, List.mem_cons, List.not_mem_nil, or_false] at hx
    rcases hx with rfl | rfl | rfl | rfl <;> omega
  · exact plE_256 l
  · exact hS.lt
def CutP (wd ht : Int) (n : Nat) (L : List Nat) (v : Value) (w : World) : Prop := ∃ pc cc, v = .agg #[.int .i64 wd, .int .i64 ht, .slice pc n cc] ∧ Row encP 1 w (.slice pc n cc) L
theorem CutP.stays (wd ht : Int) (n : Nat) (L : List Nat) (v : Value) : StaysC (CutP wd ht n L v) := fun _ _ ⟨pc, cc, e, h⟩ hb => ⟨pc, cc, e, h.below hb⟩
end Go.Proofs.YtoladolgmeanhaaGreat

namespace Go.Proofs.YtoladolgmeanhaaGreat
open Go.RowKit
attribute [local go_sem] Oper.semAt_some
set_option maxRecDepth 20000 in
set_option maxHeartbeats 16000000 in
theorem cany_law (kd : Nat) (wd ht : Int) (p : Option Addr) (n c : Nat) (b : List Nat) (w : World) (hkd : kd < 256) (hv : Rw8 w (.slice p n c) b) (h8 : ∀ x ∈ b, x < 256) :
    Makes Tryz.prog 6 #[.int .u8 (kd : Int), .int .i64 wd, .int .i64 ht, .slice p n c] w (.bool true) := by
  unfold Makes
  have hlen := hv.row.lenR
  have Hv := Lib.hid hv
  have Hlen := Lib.hid hlen
  have H8 := Lib.hid h8
  clear hv hlen h8
  go_enter Tryz.func6, Tryz.ntmps6
  go_upto_region 1 with (fail)
  by_cases h4 : 2000 < n
  · have d0 : decide ((n : Int) > 2000) = true := by simp; omega
    go_wp2
    go_ret
    exact ⟨rfl, Below.refl _ _⟩
  have d0 : decide ((n : Int) > 2000) = false := by simp; omega
  obtain ⟨t, ht0⟩ : ∃ t, decide ((1 ≤ wd ∧ 1 ≤ ht ∧ wd ≤ 256 ∧ ht ≤ 256) ∧ wd * ht > 2000) = t := ⟨_, rfl⟩
  have Ht := Lib.hid ht0
  clear ht0
  go_cut [40] (fun s wy => s = .bool t ∧ wy = w)
  case first =>
    by_cases z1 : 1 ≤ wd
    case neg =>
      have e1 : decide (wd ≥ 1) = false := by simpa using z1
      obtain rfl : t = false := by rw [← Ht.out]; exact decide_eq_false fun h => z1 h.1.1
      clear z1
      go_wp2_with fail
      go_meet
      exact ⟨rfl, rfl⟩
    have e1 : decide (wd ≥ 1) = true := by simpa using z1
    by_cases z2 : 1 ≤ ht
    case neg =>
      have e2 : decide (ht ≥ 1) = false := by simpa using z2
      obtain rfl : t = false := by rw [← Ht.out]; exact decide_eq_false fun h => z2 h.1.2.1
      clear z2 z1
      go_wp2_with fail
      go_meet
      exact ⟨rfl, rfl⟩
    have e2 : decide (ht ≥ 1) = true := by simpa using z2
    by_cases z3 : wd ≤ 256
    case neg =>
      have e3 : decide (wd ≤ 256) = false := by simpa using z3
      obtain rfl : t = false := by rw [← Ht.out]; exact decide_eq_false fun h => z3 h.1.2.2.1
      clear z3 z2 z1
      go_wp2_with fail
      go_meet
      exact ⟨rfl, rfl⟩
    have e3 : decide (wd ≤ 256) = true := by simpa using z3
    by_cases z4 : ht ≤ 256
    case neg =>
      have e4 : decide (ht ≤ 256) = false := by simpa using z4
      obtain rfl : t = false := by rw [← Ht.out]; exact decide_eq_false fun h => z4 h.1.2.2.2
      clear z4 z3 z2 z1
      go_wp2_with fail
      go_meet
      exact ⟨rfl, rfl⟩
    have e4 : decide (ht ≤ 256) = true := by simpa using z4
    obtain ⟨q, hq, hq1, hq2⟩ := cd_area ⟨z1, z2, z3, z4⟩
    have hwm : IntKind.i64.wrap (wd * ht) = (q : Int) := by rw [hq]; exact IntWalk.i64_in _ (by omega)
    have e5 : decide ((q : Int) > 2000) = t := by
      rw [← Ht.out, hq]
      congr 1
      apply propext
      exact ⟨fun h => ⟨⟨z1, z2, z3, z4⟩, h⟩, fun h => h.2⟩
    clear z1 z2 z3 z4 hq
    go_wp2_with fail
    go_meet
    exact ⟨by first | rfl | (rw [← e5]), rfl⟩
  case rest =>
  obtain ⟨rfl, hwc⟩ := hcut
  obtain rfl := hwc.symm
  cases t
  case true =>
    go_wp2
    go_ret
    exact ⟨rfl, Below.refl _ _⟩
  have hsmall := of_decide_eq_false Ht.out
  have Hsm := Lib.hid hsmall
  clear hsmall
  go_wp2_with fail
  refine Calls.mono (cdec_row kd wd ht Hv.out hkd H8.out (by omega)) ?_
  rintro e w3 ⟨hb3, hD⟩
  have Hb3 := Lib.hid hb3
  have hD2 : (∃ er : Int, er ≠ 0 ∧ e = .returned (.tuple #[.agg #[.int .i64 0, .int .i64 0, .slice none 0 0], .int .i64 er])) ∨
      ∃ (m : Nat) (L : List Nat) (p3 : Option Addr) (c3 : Nat), L.length = m ∧ cdM wd ht m ∧ m ≤ 2000 ∧ CdR kd b m (some L) ∧ (∀ x ∈ L, x < 16777216) ∧ e = .returned (.tuple #[.agg #[.int .i64 wd, .int .i64 ht, .slice p3 m c3], .int .i64 0]) ∧ Row encP 1 w3 (.slice p3 m c3) L := by
    rcases hD with ⟨-, e⟩ | ⟨-, h, e⟩ | ⟨hf, h, q, r, hq, hC', hr⟩
    · exact .inl ⟨1, by decide, e⟩
    · exact .inl ⟨130, by decide, e⟩
    · rcases hr with ⟨-, e⟩ | ⟨L, v, h', e, ho⟩
      · exact .inl ⟨131, by decide, e⟩
      · rw [h'] at hC'
        obtain ⟨hl, hlow⟩ := hC'.some H8.out (fun o m er h => h.told.1)
        have hr := own_rowP ho
        obtain ⟨p3, c3, rfl⟩ := owns_slice ho
        rw [hl] at hr e
        exact .inr ⟨q, L, p3, c3, hl, ⟨hf.1, hf.2.1, hf.2.2.1, hf.2.2.2, hq.symm⟩, by
          have := Hsm.out
          rcases Nat.lt_or_ge 2000 q with h | h
          · exact absurd ⟨hf, by rw [hq]; omega⟩ this
          · exact h, hC', hlow, e, hr⟩
  clear hD hb3
  rcases hD2 with ⟨er, her, rfl⟩ | ⟨m, L, p3, c3, hLm, hM, hm2, hC, hlow, rfl, hx3⟩
  · have de : (er != 0) = true := by simpa using her
    have Hbz := Lib.hid (Below.thn Hb3.out (Below.al1 w3 (.cells #[.int .i64 0, .int .i64 0, .slice none 0 0] 24)))
    clear her
    go_upto_region 4 with (fail)
    have hIz := ImB.new w3 0 0 (.slice none 0 0)
    generalize w3.alloc (.cells #[.int .i64 0, .int .i64 0, .slice none 0 0] 24) = w4 at *
    obtain ⟨a0, a1, a2⟩ := hIz.c
    clear hIz
    go_wp2_with fail
    refine Calls.mono (ctells_law _) ?_
    rintro _ wt ⟨rfl, hbt⟩
    go_wp2
    go_ret
    exact ⟨rfl, Below.thn Hbz.out hbt⟩
  have HM := Lib.hid hM
  have HC := Lib.hid hC
  have HX3 := Lib.hid hx3
  have HLm := Lib.hid hLm
  have HLow : Hid (L.map rlw = L) := Lib.hid (low_map hlow)
  have H32 : Hid (∀ x ∈ L, x < 4294967296) := Lib.hid (fun x hx => by have := hlow x hx; omega)
  have hm1 := (cd_nat hM).1
  clear hM hC hx3 hLm hlow
  go_upto_region 4 with (fail)
  have hba := Below.al1 w3 (.cells #[.int .i64 wd, .int .i64 ht, .slice p3 m c3] 24)
  have hIa := ImB.new w3 wd ht (.slice p3 m c3)
  generalize w3.alloc (.cells #[.int .i64 wd, .int .i64 ht, .slice p3 m c3] 24) = w4 at *
  obtain ⟨B, hB⟩ : ∃ B, w3.heap.size = B := ⟨_, rfl⟩
  rw [hB] at hIa ⊢
  have Hb4 := Lib.hid (Below.thn Hb3.out hba)
  have HX4 := Lib.hid (HX3.out.below hba)
  have HI4 := Lib.hid hIa
  obtain ⟨a0, a1, a2⟩ := hIa.c
  clear hba hIa hB
  go_wp2_with fail
  refine Calls.mono (cenc_row wd ht HX4.out H32.out) ?_
  rintro e w5 ⟨hb5, ⟨h, -⟩ | ⟨-, S, p5, c5, hS, rfl, ho5⟩⟩
  · exact absurd HM.out h
  have HC5 : Hid (CdR (cdE L S).1 (cdE L S).2 m (some L)) := Lib.hid (by
    have := cdE_reads hS (by rw [HLm.out]; omega)
    rwa [HLm.out, HLow.out] at this)
  have Hk : Hid (1 ≤ (cdE L S).1 ∧ (cdE L S).1 ≤ 4) := Lib.hid (cdE_kind L S)
  have hle := cdE_len L S
  have Hleast : Hid (kd ≠ 4 → (cdE L S).2.length ≤ n) := Lib.hid (fun h => by
    have := cdE_least (S := S) HC.out h hm1 H8.out
    rwa [Hlen.out] at this)
  have H85 : Hid (∀ x ∈ (cdE L S).2, x < 256) := Lib.hid (cdE_256 hS)
  rw [HLm.out] at hle
  obtain ⟨E, hE⟩ : ∃ E, cdE L S = E := ⟨_, rfl⟩
  rw [hE] at HC5 Hk hle Hleast H85 ho5 ⊢
  obtain ⟨k, bb⟩ := E
  dsimp only at HC5 Hk hle Hleast H85 ho5 ⊢
  have Hr5 := Lib.hid (Rw8.own ho5 rfl)
  have Hb5 := Lib.hid (Below.thn Hb4.out hb5)
  have HX5 := Lib.hid (HX4.out.below hb5)
  have HI5 := Lib.hid (HI4.out.later hb5)
  obtain ⟨j, hj⟩ : ∃ j, bb.length = j := ⟨_, rfl⟩
  rw [hj] at hle Hleast Hr5 ⊢
  have hk256 : k < 256 := by have := Hk.out; omega
  clear hb5 hS ho5 hE hj a0 a1 a2
  go_wp2_with fail
  refine Calls.mono (cdec_row k wd ht Hr5.out hk256 H85.out (by omega)) ?_
  rintro e w6 ⟨hb6, hD⟩
  obtain ⟨p6, c6, rfl, ho6⟩ := hD.yes HM.out Hk.out HC5.out
  rw [HLm.out] at ho6 ⊢
  have HY6 := Lib.hid (own_rowP ho6)
  have Hb6 := Lib.hid (Below.thn Hb5.out hb6)
  have HX6 := Lib.hid (HX5.out.below hb6)
  have HI6 := Lib.hid (HI5.out.later hb6)
  clear hb6 hD ho6
  go_upto_region 8 with (fail)
  have hby := Below.al1 w6 (.cells #[.int .i64 wd, .int .i64 ht, .slice p6 m c6] 24)
  have hIy := ImB.new w6 wd ht (.slice p6 m c6)
  generalize w6.alloc (.cells #[.int .i64 wd, .int .i64 ht, .slice p6 m c6] 24) = w8 at *
  obtain ⟨By, hBy⟩ : ∃ B, w6.heap.size = B := ⟨_, rfl⟩
  rw [hBy] at hIy ⊢
  have Hb8 := Lib.hid (Below.thn Hb6.out hby)
  have hI8 := HI6.out.later hby
  have HX8 := Lib.hid (HX6.out.below hby)
  have HY8 := Lib.hid (HY6.out.below hby)
  obtain ⟨i0, i1, i2⟩ := hI8.c
  obtain ⟨y0, y1, y2⟩ := hIy.c
  have HCut : Hid (∀ W, Below w8.heap.size w8 W → Calls Tryz.prog 19 #[.agg #[.int .i64 wd, .int .i64 ht, .slice p3 m c3]] W fun e w' => ∃ p' c', e = .returned (.agg #[.int .i64 wd, .int .i64 ht, .slice p' m c']) ∧ Below w8.heap.size w8 w' ∧ Row encP 1 w' (.slice p' m c') L) := Lib.hid (fun W hW =>
    Calls.mono (cut_w (wd := wd) (ht := ht) HX8.out (by omega) W hW) (by
      rintro _ w' ⟨pc, cc, rfl, h1, -, h2⟩
      have h3 := h2 _ (Below.refl _ _)
      rw [HLow.out] at h3
      exact ⟨pc, cc, rfl, h1, h3⟩))
  obtain ⟨C, hC⟩ : ∃ C : World → Prop, C = fun w' => Below w8.heap.size w8 w' := ⟨_, rfl⟩
  have hCst : StaysC C := by
    rw [hC]
    exact fun w w' h hb => Below.thn h hb
  have hCi : ∀ w, C w → Below w8.heap.size w8 w := by
    rw [hC]
    exact fun _ h => h
  have hCo : ∀ w, Below w8.heap.size w8 w → C w := by
    rw [hC]
    exact fun _ h => h
  have hC0 : C { w8 with drawn := w8.drawn + 1 } := hCo _ (Below.drew (Below.refl _ _))
  have q0 : ∀ k : InC C, k.world.cell? ⟨B, 0, none⟩ = some (.int .i64 wd) := fun k => cell_later (hCi _ k.ok) i0
  have q1 : ∀ k : InC C, k.world.cell? ⟨B, 1, none⟩ = some (.int .i64 ht) := fun k => cell_later (hCi _ k.ok) i1
  have q2 : ∀ k : InC C, k.world.cell? ⟨B, 2, none⟩ = some (.slice p3 m c3) := fun k => cell_later (hCi _ k.ok) i2
  have q3 : ∀ k : InC C, k.world.cell? ⟨By, 0, none⟩ = some (.int .i64 wd) := fun k => cell_later (hCi _ k.ok) y0
  have q4 : ∀ k : InC C, k.world.cell? ⟨By, 1, none⟩ = some (.int .i64 ht) := fun k => cell_later (hCi _ k.ok) y1
  have q5 : ∀ k : InC C, k.world.cell? ⟨By, 2, none⟩ = some (.slice p6 m c6) := fun k => cell_later (hCi _ k.ok) y2
  have hqq : Nonempty (InC C) := ⟨⟨_, hC0⟩⟩
  have HCi := Lib.hid hCi
  have HCo := Lib.hid hCo
  have HMay : Hid (∀ W, Makes Tryz.prog 18 #[.agg #[.int .i64 wd, .int .i64 ht, .slice p3 m c3]] W (.bool true)) := Lib.hid (fun W => refMay_any wd ht p3 m c3 W true (decide_eq_true HM.out))
  have HSm : Hid (∀ k : InC C, Makes Tryz.prog 14 #[.agg #[.int .i64 wd, .int .i64 ht, .slice p3 m c3], .agg #[.int .i64 wd, .int .i64 ht, .slice p6 m c6]] k.world (.bool true)) := Lib.hid (fun k =>
    same_w (HX8.out.below (hCi _ k.ok)) (HY8.out.below (hCi _ k.ok)) (by omega) (by omega) true (by simp))
  clear hC hCi hCo hby hI8 hIy hBy
  refine region_parts (by kernel_rfl) ?_
  refine part_any 0 30 32 C (fun _ => True) (by decide) (by decide) (by kernel_rfl) (by kernel_rfl) hCst hC0 (fun _ _ _ _ => trivial) trivial ?_
  simp only [List.take_succ_cons, List.take_zero, List.drop_succ_cons, List.drop_zero]
  repeat (refine LqC_on (fun K hK => ?_); go_simp; first | (refine hK _ ?_; clear hK K) | (apply Exists.intro; refine ⟨fun n => ?_, hK _ ?_⟩; (first | (go_at_call 18; exact HMay.out n.world) | (go_at_call 14; exact HSm.out n)); clear hK K))
  refine LqC_nil ?_
  refine ChG_call (by rfl) 19 #[.agg #[.int .i64 wd, .int .i64 ht, .slice p3 m c3]] (fun w => by first | (go_simp; done) | kernel_rfl) (CutP wd ht m L) (fun v => CutP.stays wd ht m L v) (fun W hW _ => ?_) (fun v1 => ?_)
  · refine Calls.mono (HCut.out W (HCi.out W hW)) ?_
    rintro _ w' ⟨pc, cc, rfl, hbc, hrc⟩
    exact ⟨_, rfl, HCo.out _ hbc, pc, cc, rfl, hrc⟩
  refine ChG_call (by rfl) 14 #[.agg #[.int .i64 wd, .int .i64 ht, .slice p3 m c3], v1] (fun w => by first | (go_simp; done) | kernel_rfl) (fun v _ => v = .bool true) (fun v _ _ h _ => h) (fun W hW hk => ?_) (fun v2 => ?_)
  · obtain ⟨pc, cc, rfl, hr⟩ := hk
    refine Calls.mono (same_w (HX8.out.below (HCi.out W hW)) hr (by omega) (by omega) true (by simp)) ?_
    rintro _ w' ⟨rfl, hbs⟩
    exact ⟨_, rfl, HCo.out _ (Below.thn (HCi.out W hW) hbs), rfl⟩
  rintro w10 hw10 rfl
  have hb10 := HCi.out w10 hw10
  have Hb10 := Lib.hid (Below.thn Hb8.out hb10)
  have hne := After.ne w10
  have e0 := After.rule (cell_later hb10 i0)
  have e1 := After.rule (cell_later hb10 i1)
  have e2 := After.rule (cell_later hb10 i2)
  have g0 := After.rule (cell_later hb10 y0)
  have g1 := After.rule (cell_later hb10 y1)
  have g2 := After.rule (cell_later hb10 y2)
  clear i0 i1 i2 y0 y1 y2
  clear hqq q0 q1 q2 q3 q4 q5 hC0 hCst hw10 hb10
  have hcase : ((kd : Int) == 4) = true ∨ (((kd : Int) == 4) = false ∧ (decide ((j : Int) ≤ (n : Int)) = true ∧ decide (j ≤ n) = true)) := by
    by_cases h : kd = 4
    · left; simp; omega
    · right
      have := Hleast.out h
      refine ⟨?_, ?_, ?_⟩ <;> simp <;> omega
  refine part_quiet 32 (fun w' => ∃ k : After w10, w' = k.world) (by kernel_rfl) (by kernel_rfl) ⟨⟨w10, Below.refl _ _⟩, rfl⟩ ?_
  simp only [List.drop_succ_cons, List.drop_zero, Act.put]
  go_simp
  rcases hcase with hc4 | ⟨hc4, hcj, hcj2⟩
  all_goals
    repeat (go_big_quiet_step ((first | (go_at_call 15; exact Makes.after (ctells_law _)))))
    refine wpQuiet_nil ?_
    rintro ⟨w11, hb11⟩
    dsimp only
    go_wp2
    go_ret
    exact ⟨rfl, Below.thn Hb10.out hb11⟩
end Go.Proofs.YtoladolgmeanhaaGreat

namespace Go.Proofs.YtoladolgmeanhaaGreat
open Go.ChangeShapes Go.WideShapes Go.ChangeAt Go.RowKit Go.Joins
theorem trodAll_four_mine {H : Type} {enc : TypeId × Value → H} {P : Program} {w : World} {base : Nat} {spare : Nat → Bool} {held : Bool} {t0 t1 t2 t3 : TypeId} {args : Array Value} {ds : List (DataW H)} {ps : List MemPlace} (h : DataW.TrodAll enc P w base spare held [t0, t1, t2, t3] args.toList ds ps) :
    ∃ v0 v1 v2 v3 d0 d1 d2 d3 p0 p1 p2 p3, args = #[v0, v1, v2, v3] ∧ ds = [d0, d1, d2, d3] ∧ ps = p0 ++ (p1 ++ (p2 ++ p3)) ∧ DataW.Trod enc P w base spare held t0 v0 d0 p0 ∧ DataW.Trod enc P w base spare held t1 v1 d1 p1 ∧ DataW.Trod enc P w base spare held t2 v2 d2 p2 ∧ DataW.Trod enc P w base spare held t3 v3 d3 p3 := by
  obtain ⟨v0, vs0, d0, ds0, p0, q0, hargs, rfl, rfl, h0, r0⟩ := trodAll_cons h
  obtain ⟨v1, vs1, d1, ds1, p1, q1, rfl, rfl, rfl, h1, r1⟩ := trodAll_cons r0
  obtain ⟨v2, vs2, d2, ds2, p2, q2, rfl, rfl, rfl, h2, r2⟩ := trodAll_cons r1
  obtain ⟨v3, vs3, d3, ds3, p3, q3, rfl, rfl, rfl, h3, r3⟩ := trodAll_cons r2
  obtain ⟨rfl, rfl, rfl⟩ := trodAll_nil r3
  exact ⟨v0, v1, v2, v3, d0, d1, d2, d3, p0, p1, p2, p3, by cases args; simp_all, rfl, by simp, h0, h1, h2, h3⟩
theorem wf_u8b {n : Int} (h : (Lit.int .u8 n).wf = true) : 0 ≤ n ∧ n ≤ 255 := by
  have hm : IntKind.u8.min = 0 := by decide
  have hx : IntKind.u8.max = 255 := by decide
  simpa [Lit.wf, hm, hx] using h
end Go.Proofs.YtoladolgmeanhaaGreat

namespace Go.Proofs.YtoladolgmeanhaaGreat
open Go.ChangeShapes Go.WideShapes Go.ChangeAt Go.RowKit Go.Joins Go.Deep
set_option maxRecDepth 100000 in
theorem open_rows {α : Type} [Inhabited α] {ec : α → List Value} {k : Nat} {Good : α → Prop} {H : Type} {enc : TypeId × Value → H} {W : World} {base : Nat} {v : Value} {d : DataW H} {p : List MemPlace} {t e : TypeId}
    (ht : Tryz.prog.underlying t = some (.slice e)) (hk : Tryz.prog.cellsOf e = k)
    (hat : ∀ (n : Nat) (a : Addr) (D : DataW H) (Pl : List MemPlace) (cs : List Value), W.cells? 0 a k = some cs → DataW.trod enc Tryz.prog W 0 (fun _ => true) true n e cs = some (D, Pl) → ∃ x : α, Good x ∧ ∀ j u, (ec x)[j]? = some u → W.cell? (a.add j) = some u)
    (hv : Value.okWide Tryz.prog W .any base t v) (h : DataW.Trod enc Tryz.prog W 0 (fun _ => true) true t v d p) :
    ∃ xs : List α, RwG ec k W v xs ∧ ∀ x ∈ xs, Good x := by
  obtain ⟨a0, len, cap, rfl⟩ := okWide_slice ht hv
  obtain ⟨fuel, hf⟩ := h
  rcases open_slice ht hf with ⟨hcs, -⟩ | ⟨a, len', cap', m, n, D, Pl, hcs, hb, hl, hm, hmm, hx, hi⟩
  · simp [Value.cells] at hcs
    obtain ⟨rfl, rfl, rfl⟩ := hcs
    exact ⟨[], ⟨⟨none, 0, rfl, Nat.le_refl _, by simp [maxLen], .inl ⟨rfl, rfl⟩⟩, fun c h => by cases h; rfl⟩, fun r h => by cases h⟩
  · simp [Value.cells] at hcs
    obtain ⟨rfl, rfl, rfl⟩ := hcs
    have hh : W.has Tryz.prog .any base a e cap := by
      have h1 := hv
      unfold Value.okWide at h1
      rw [ht] at h1
      simp only [Cell.okWide, ht, Cell.ok] at h1
      exact h1.2.2
    obtain ⟨-, hspot, row, cells, hsh, -⟩ := hh
    have hlt : a.block < W.heap.size := by
      unfold World.shape? at hsh
      cases hq : W.heap[a.block]? with
      | none => rw [hq] at hsh; cases hsh
      | some o => exact (Array.getElem?_eq_some_iff.1 hq).1
    obtain ⟨ab, ao, asp⟩ := a
    dsimp only at hspot hlt
    subst hspot
    rw [hk] at hi
    have H : ∀ i, i < len → ∃ r : α, Good r ∧ ∀ j u, (ec r)[j]? = some u → W.cell? ((⟨ab, ao, none⟩ : Addr).add (i * k) |>.add j) = some u := fun i him => by
      obtain ⟨cs', hc, ht⟩ := hi i (by rw [hmm]; simp; omega)
      exact hat _ _ _ _ _ hc ht
    obtain ⟨f, hf'⟩ : ∃ f : Nat → α, ∀ i, i < len → Good (f i) ∧ ∀ j u, (ec (f i))[j]? = some u → W.cell? ((⟨ab, ao, none⟩ : Addr).add (i * k) |>.add j) = some u := by
      classical
      refine ⟨fun i => if h : i < len then Classical.choose (H i h) else default, fun i him => ?_⟩
      simp only [him, dif_pos]
      exact Classical.choose_spec (H i him)
    have hln : ((List.range len).map f).length = len := by simp
    refine ⟨(List.range len).map f, ⟨⟨_, cap, by rw [hln], by rw [hln]; exact hl, hm, .inr ⟨_, _, rfl, hlt, fun i x hx j u hu => ?_⟩⟩, fun c h => by cases h⟩, fun r hr => ?_⟩
    · rw [List.getElem?_map] at hx
      cases hr : (List.range len)[i]? with
      | none => rw [hr] at hx; cases hx
      | some q =>
        rw [hr] at hx
        obtain ⟨hlt2, hq⟩ := List.getElem?_eq_some_iff.1 hr
        rw [List.getElem_range] at hq
        subst hq
        cases hx
        have h4 := (hf' i (by simpa using hlt2)).2 j u hu
        rw [Addr.add_lit, Addr.add_lit] at h4
        exact h4
    · obtain ⟨i, hi', rfl⟩ := List.mem_map.1 hr
      exact (hf' i (by simpa using hi')).1
end Go.Proofs.YtoladolgmeanhaaGreat

namespace Go.Proofs.YtoladolgmeanhaaGreat
open Go.ChangeShapes Go.WideShapes Go.ChangeAt Go.RowKit Go.Joins Go.Deep
set_option maxRecDepth 100000 in
theorem byte_atR {H : Type} {enc : TypeId × Value → H} {W : World} (n : Nat) (a : Addr) (D : DataW H) (Pl : List MemPlace) (cs : List Value) (hc : W.cells? 0 a 1 = some cs) (ht : DataW.trod enc Tryz.prog W 0 (fun _ => true) true n 5 cs = some (D, Pl)) :
    ∃ x : Nat, x < 256 ∧ ∀ j u, (enc8 x)[j]? = some u → W.cell? (a.add j) = some u := by
  obtain ⟨-, hl, hat⟩ := World.cells?_some hc
  match cs, hl with
  | [c0], _ =>
    obtain ⟨x, e0, -, wf⟩ := DataW.trod_int Tryz.underlying5 ht
    simp at e0
    subst e0
    have hb := wf_u8b wf
    obtain ⟨m, rfl⟩ := Int.eq_ofNat_of_zero_le hb.1
    refine ⟨m, by omega, fun j u hu => ?_⟩
    have hj : j < 1 := by
      have := (List.getElem?_eq_some_iff.1 hu).1
      simpa [enc8] using this
    rw [hat j hj]
    exact hu
set_option maxRecDepth 100000 in
theorem open_bytesR {H : Type} {enc : TypeId × Value → H} {W : World} {base : Nat} {v : Value} {d : DataW H} {p : List MemPlace} (hv : Value.okWide Tryz.prog W .any base 25 v) (h : DataW.Trod enc Tryz.prog W 0 (fun _ => true) true 25 v d p) :
    ∃ xs : List Nat, Rw8 W v xs ∧ ∀ x ∈ xs, x < 256 :=
  open_rows Tryz.underlying25 (by kernel_rfl) byte_atR hv h
end Go.Proofs.YtoladolgmeanhaaGreat
