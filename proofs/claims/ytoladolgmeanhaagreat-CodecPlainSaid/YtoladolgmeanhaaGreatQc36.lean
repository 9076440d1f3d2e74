/- Several texts in one, each with its own head. -/
import Derived.Test.YtoladolgmeanhaaGreatQc23
import Derived.Test.YtoladolgmeanhaaGreatQc2
import Derived.Test.YtoladolgmeanhaaGreatQc3
/- Regions that draw their order, whose first operations only read (or call what keeps all that there is) and whose last ones wait for each other, but not for the first: one walk in the order of the text serves every order, where what is read is left alone by the last ones. Nothing here speaks of one program. -/
namespace Go.Proofs.YtoladolgmeanhaaGreat
open Go.RowKit

section
variable {P : Program} {ops : Array Oper} {md : Region.Mode}

def YieldsC (P : Program) (ops : Array Oper) (C : World → Prop) (o : Oper) (v : Value) (a : Act) : Prop :=
  (Region.wanted o (yielded ops a.tmps) = true ∧ ∀ w, C w → mkUpon P w v ((execOp a.eval o).run P w)) ∨ (Region.wanted o (yielded ops a.tmps) = false ∧ v = undef)
theorem YieldsC.of_same {C : World → Prop} {o : Oper} {v : Value} {a a' : Act} (hy : YieldsC P ops C o v a) (he : execOp a'.eval o = execOp a.eval o)
    (hw : Region.wanted o (yielded ops a'.tmps) = Region.wanted o (yielded ops a.tmps)) : YieldsC P ops C o v a' := by
  unfold YieldsC at *
  rw [he, hw]
  exact hy
def LqC (P : Program) (ops : Array Oper) (C : World → Prop) (E : Act → Prop) : List Oper → Act → Prop
  | [], a => E a
  | o :: rest, a => ∃ v, YieldsC P ops C o v a ∧ LqC P ops C E rest (a.put o.dst v)
theorem LqC_nil {C : World → Prop} {E : Act → Prop} {a : Act} (h : E a) : LqC P ops C E [] a := h
theorem LqC_step {C : World → Prop} {E : Act → Prop} {a : Act} {o : Oper} {rest : List Oper}
    (h : ∀ K : Act → Prop, (∀ a, LqC P ops C E rest a → K a) → if Region.wanted o (yielded ops a.tmps) then ∃ v, (∀ w, C w → mkUpon P w v ((execOp a.eval o).run P w)) ∧ K (a.put o.dst v) else K (a.put o.dst undef)) : LqC P ops C E (o :: rest) a := by
  have h1 := h _ (fun _ h => h)
  by_cases hw : Region.wanted o (yielded ops a.tmps) = true
  · rw [if_pos hw] at h1
    obtain ⟨v, h2, h3⟩ := h1
    exact ⟨v, Or.inl ⟨hw, h2⟩, h3⟩
  · rw [if_neg hw] at h1
    exact ⟨undef, Or.inr ⟨by simpa using hw, rfl⟩, h1⟩
theorem LqC.pick {C : World → Prop} {E : Act → Prop} (j : Oper) (post : List Oper) (hj : ∀ cs b, j.op ≠ .select cs b) : ∀ (pre : List Oper) (a : Act), (∀ p ∈ pre, p.apart ops j = true ∧ ∀ cs b, p.op ≠ .select cs b) → LqC P ops C E (pre ++ j :: post) a →
    ∃ v, YieldsC P ops C j v a ∧ LqC P ops C E (pre ++ post) (a.put j.dst v)
  | [], _, _, h => h
  | i :: pre, a, hap, h => by
    obtain ⟨vi, hyi, h'⟩ := h
    obtain ⟨v, hy, hL⟩ := LqC.pick j post hj pre (a.put i.dst vi) (fun p hp => hap p (by simp [hp])) h'
    obtain ⟨hi, hsi⟩ := hap i (by simp)
    obtain ⟨h1, h2, h3⟩ := Oper.apart_spec hi
    refine ⟨v, hy.of_same (execOp_put j hj a i.dst vi h1).symm (wanted_put j a i.dst vi h1).symm, vi, hyi.of_same (execOp_put i hsi a j.dst v h3) (wanted_put i a j.dst v h3), ?_⟩
    rw [← Act.put_comm a vi v h2]
    exact hL
def StaysC (K : World → Prop) : Prop := ∀ w w', K w → Below w.heap.size w w' → K w'
def spOut (P : Program) (C : World → Prop) (Po : Value → World → Prop) (w : World) : Result Next → Prop
  | .ok (.value v) w' => C w' ∧ Po v w'
  | .ok .skip w' => C w' ∧ Po undef w'
  | .ok (.enter f args) w' => w' = w ∧ Calls P f args w (fun e w'' => ∃ v, e = .returned v ∧ C w'' ∧ Po v w'')
  | _ => False
attribute [go_sem] spOut
def ChC (P : Program) (C : World → Prop) (E : (World → Prop) → Act → Prop) : List Oper → (World → Prop) → Act → Prop
  | [], Kn, a => E Kn a
  | o :: rest, Kn, a => o.guard = none ∧ ∃ Po : Value → World → Prop, (∀ v, StaysC (Po v)) ∧ (∀ w, C w → Kn w → spOut P C Po w ((execOp a.eval o).run P w)) ∧ ∀ v, ChC P C E rest (Po v) (a.put o.dst v)
theorem ChC.pick {C : World → Prop} {E : (World → Prop) → Act → Prop} (j : Oper) (post : List Oper) (hj : ∀ cs b, j.op ≠ .select cs b) : ∀ (pre : List Oper) (Kn : World → Prop) (a : Act), (∀ p ∈ pre, p.apart ops j = true ∧ ∀ cs b, p.op ≠ .select cs b) →
    LqC P ops C (fun a => ChC P C E (j :: post) Kn a) pre a → ∃ Po : Value → World → Prop, j.guard = none ∧ (∀ v, StaysC (Po v)) ∧ (∀ w, C w → Kn w → spOut P C Po w ((execOp a.eval j).run P w)) ∧ ∀ v, LqC P ops C (fun a => ChC P C E post (Po v) a) pre (a.put j.dst v)
  | [], _, _, _, h => by
    obtain ⟨h0, Po, h1, h2, h3⟩ := h
    exact ⟨Po, h0, h1, h2, h3⟩
  | i :: pre, Kn, a, hap, h => by
    obtain ⟨vi, hyi, h'⟩ := h
    obtain ⟨Po, g0, g1, g2, g3⟩ := ChC.pick j post hj pre Kn (a.put i.dst vi) (fun p hp => hap p (by simp [hp])) h'
    obtain ⟨hi, hsi⟩ := hap i (by simp)
    obtain ⟨h1, h2, h3⟩ := Oper.apart_spec hi
    refine ⟨Po, g0, g1, fun w hC hK => ?_, fun v => ⟨vi, hyi.of_same (execOp_put i hsi a j.dst v h3) (wanted_put i a j.dst v h3), ?_⟩⟩
    · have := g2 w hC hK
      rwa [execOp_put j hj a i.dst vi h1] at this
    · rw [← Act.put_comm a vi v h2]
      exact g3 v
end


end Go.Proofs.YtoladolgmeanhaaGreat

/- As Chain, with a tail behind the last ones that waits for all (a store, or an entry of a map). Nothing here speaks of one program. -/
namespace Go.Proofs.YtoladolgmeanhaaGreat
open Go.RowKit

section
variable {P : Program} {ops : Array Oper} {md : Region.Mode}

def specB (md : Region.Mode) (ops : Array Oper) (N M : Nat) : Bool := (List.range M).all fun j => (List.range j).all fun i => decide (i < N) || Region.waitsFor md ops j i
theorem spec_of {N M : Nat} (h : specB md ops N M = true) {i j : Nat} (hi : N ≤ i) (hij : i < j) (hj : j < M) : Region.waitsFor md ops j i = true := by
  have := List.all_eq_true.1 (List.all_eq_true.1 h j (List.mem_range.2 hj)) i (List.mem_range.2 hij)
  simpa [show ¬ i < N by omega] using this
structure StandT (ops : Array Oper) (N M : Nat) (listed : Array Bool) (pq ps : List (Nat × Oper)) : Prop where
  size : listed.size = ops.size
  all : ∀ i, i < M → listed.getD i true = false → (∃ p ∈ pq, p.1 = i) ∨ (∃ p ∈ ps, p.1 = i)
  q : ∀ p ∈ pq, p.1 < N ∧ p.1 < M ∧ listed.getD p.1 true = false ∧ ops[p.1]? = some p.2
  s : ∀ p ∈ ps, N ≤ p.1 ∧ p.1 < M ∧ listed.getD p.1 true = false ∧ ops[p.1]? = some p.2
  sq : pq.Pairwise (fun x y => x.1 < y.1)
  ss : ps.Pairwise (fun x y => x.1 < y.1)
  tail : ∀ t, M ≤ t → t < ops.size → listed.getD t true = false
  le : M < ops.size
theorem StandT.listed_of {N M : Nat} {listed : Array Bool} {pq ps : List (Nat × Oper)} (h : StandT ops N M listed pq ps) {k : Nat} (hk : k < ops.size) {i : Nat} (hl : (listed.setIfInBounds k true).getD i true = false) : i ≠ k ∧ listed.getD i true = false := by
  have hks : k < listed.size := by rw [h.size]; exact hk
  by_cases e : k = i
  · subst e; rw [getD_set_same hks] at hl; cases hl
  · rw [getD_set_ne true e] at hl; exact ⟨Ne.symm e, hl⟩
theorem StandT.quiet {N M : Nat} {listed : Array Bool} {pre post ps : List (Nat × Oper)} {p : Nat × Oper} (h : StandT ops N M listed (pre ++ p :: post) ps) : StandT ops N M (listed.setIfInBounds p.1 true) (pre ++ post) ps := by
  obtain ⟨hpN, hps, hpl, hpo⟩ := h.q p (by simp)
  obtain ⟨m1, m2⟩ := pair_mid h.sq
  have hother : ∀ r ∈ pre ++ post, r.1 ≠ p.1 := fun r hr e => by
    have hsq := h.sq
    rw [List.pairwise_append] at hsq
    obtain ⟨_, s2, s3⟩ := hsq
    rw [List.pairwise_cons] at s2
    rcases List.mem_append.1 hr with hr | hr
    · have := m1 r hr; omega
    · have := s2.1 r hr; omega
  refine ⟨by simp [h.size], fun i hi hl => ?_, fun r hr => ?_, fun r hr => ?_, m2, h.ss, fun t ht hs => by rw [getD_set_ne true (by omega)]; exact h.tail t ht hs, h.le⟩
  · obtain ⟨e, hl'⟩ := h.listed_of (Nat.lt_trans hps h.le) hl
    rcases h.all i hi hl' with ⟨r, hr, hri⟩ | ⟨r, hr, hri⟩
    · rcases mem_mid hr with rfl | hr
      · exact absurd hri.symm e
      · exact .inl ⟨r, hr, hri⟩
    · exact .inr ⟨r, hr, hri⟩
  · obtain ⟨r1, r2, r3, r4⟩ := h.q r (mid_mem hr)
    exact ⟨r1, r2, by rw [getD_set_ne true (Ne.symm (hother r hr))]; exact r3, r4⟩
  · obtain ⟨r1, r2, r3, r4⟩ := h.s r hr
    exact ⟨r1, r2, by rw [getD_set_ne true (by omega)]; exact r3, r4⟩
theorem StandT.special {N M : Nat} {listed : Array Bool} {post pq : List (Nat × Oper)} {p : Nat × Oper} (h : StandT ops N M listed pq (p :: post)) : StandT ops N M (listed.setIfInBounds p.1 true) pq post := by
  obtain ⟨hpN, hps, hpl, hpo⟩ := h.s p (by simp)
  have m1 := (List.pairwise_cons.1 h.ss).1
  refine ⟨by simp [h.size], fun i hi hl => ?_, fun r hr => ?_, fun r hr => ?_, h.sq, (List.pairwise_cons.1 h.ss).2, fun t ht hs => by rw [getD_set_ne true (by omega)]; exact h.tail t ht hs, h.le⟩
  · obtain ⟨e, hl'⟩ := h.listed_of (Nat.lt_trans hps h.le) hl
    rcases h.all i hi hl' with ⟨r, hr, hri⟩ | ⟨r, hr, hri⟩
    · exact .inl ⟨r, hr, hri⟩
    · rcases List.mem_cons.1 hr with rfl | hr
      · exact absurd hri.symm e
      · exact .inr ⟨r, hr, hri⟩
  · obtain ⟨r1, r2, r3, r4⟩ := h.q r hr
    exact ⟨r1, r2, by rw [getD_set_ne true (by omega)]; exact r3, r4⟩
  · obtain ⟨r1, r2, r3, r4⟩ := h.s r (by simp [hr])
    have := m1 r hr
    exact ⟨r1, r2, by rw [getD_set_ne true (by omega)]; exact r3, r4⟩
theorem StandT.ready {N M : Nat} {listed : Array Bool} {pq ps : List (Nat × Oper)} (S : Shape md ops M) (h : StandT ops N M listed pq ps) (hne : pq ≠ [] ∨ ps ≠ []) : Region.ready md ops listed ≠ [] := by
  have key : ∀ p : Nat × Oper, p.1 < M → listed.getD p.1 true = false → ops[p.1]? = some p.2 → (∀ i, i < p.1 → listed.getD i true = true) → Region.ready md ops listed ≠ [] := fun p h1 h2 h3 h4 e => by
    have : p.1 ∈ Region.ready md ops listed := mem_ready.2 ⟨h2, p.2, h3, fun e' he hb => by
      have hle := h.le
      have hlt := S.back p.1 p.2 h1 h3 e' he hb
      have := h4 _ hlt
      first
        | exact this
        | (rw [getD_any (by rw [h.size]; omega)] ; exact this)
        | (have hs : e'.on < listed.size := by (rw [h.size]; omega)
           simpa [hs] using this)⟩
    rw [e] at this
    cases this
  have low : ∀ k, (∀ p ∈ pq, k ≤ p.1) → (∀ p ∈ ps, k ≤ p.1) → k ≤ M → ∀ i, i < k → listed.getD i true = true := fun k h1 h2 hk i hi => by
    cases hl : listed.getD i true
    · rcases h.all i (by omega) hl with ⟨r, hr, e⟩ | ⟨r, hr, e⟩
      · have := h1 r hr; omega
      · have := h2 r hr; omega
    · rfl
  cases pq with
  | cons p rest =>
    obtain ⟨q1, q2, q3, q4⟩ := h.q p (by simp)
    refine key p q2 q3 q4 (low p.1 (fun r hr => ?_) (fun r hr => ?_) (by omega))
    · rcases List.mem_cons.1 hr with rfl | hr
      · exact Nat.le_refl _
      · exact Nat.le_of_lt ((List.pairwise_cons.1 h.sq).1 r hr)
    · have := (h.s r hr).1; omega
  | nil =>
    cases ps with
    | cons p rest =>
      obtain ⟨q1, q2, q3, q4⟩ := h.s p (by simp)
      refine key p q2 q3 q4 (low p.1 (fun r hr => by cases hr) (fun r hr => ?_) (by omega))
      rcases List.mem_cons.1 hr with rfl | hr
      · exact Nat.le_refl _
      · exact Nat.le_of_lt ((List.pairwise_cons.1 h.ss).1 r hr)
    | nil => rcases hne with h | h <;> exact absurd rfl h
theorem StandT.done {N M : Nat} {listed : Array Bool} (h : StandT ops N M listed [] []) : listed = headDone ops.size M := by
  have hle := h.le
  apply Array.ext
  · rw [h.size]; simp [headDone]; omega
  · intro i h1 h2
    rw [h.size] at h1
    by_cases hi : i < M
    · have : listed.getD i true = true := by
        cases hl : listed.getD i true
        · rcases h.all i hi hl with ⟨r, hr, _⟩ | ⟨r, hr, _⟩ <;> cases hr
        · rfl
      have hs : i < listed.size := by rw [h.size]; exact h1
      have e1 : listed[i] = true := by simpa [hs] using this
      rw [e1]
      simp [headDone, hi]
    · have := h.tail i (by omega) h1
      have hs : i < listed.size := by rw [h.size]; exact h1
      have e1 : listed[i] = false := by simpa [hs] using this
      rw [e1]
      simp [headDone, List.getElem_append, hi]
theorem chainT_any {Q : Exit → Act → World → Prop} {C : World → Prop} {N M : Nat} (tl : List Oper) (S : Shape md ops M) (hsp : specB md ops N M = true) (htl : ∀ j, tl[j]? = ops[M + j]?) (hseq : Region.seqB md ops tl.length M (headDone ops.size M) = true) (hC : StaysC C) :
    ∀ (f : Nat) (listed : Array Bool) (a : Act) (w : World) (Kn : World → Prop) (pq ps : List (Nat × Oper)), pq.length + ps.length = f → HeadInv md ops M listed → StandT ops N M listed pq ps → C w → StaysC Kn → Kn w →
      LqC P ops C (fun a => ChC P C (fun Kn a => ∀ w, C w → Kn w → wpList P ops Q tl a w) (ps.map Prod.snd) Kn a) (pq.map Prod.snd) a → wpAny P md ops Q (f + tl.length) listed a w := by
  intro f
  induction f with
  | zero =>
    intro listed a w Kn pq ps hf inv st hw hst hk hL
    have e1 : pq = [] := List.length_eq_zero_iff.1 (by omega)
    have e2 : ps = [] := List.length_eq_zero_iff.1 (by omega)
    subst e1 e2
    rw [Nat.zero_add, st.done]
    exact wpAny_of_seq tl M _ a w htl hseq (hL w hw hk)
  | succ f ih =>
    intro listed a w Kn pq ps hf inv st hw hst hk hL
    rw [show f + 1 + tl.length = (f + tl.length) + 1 by omega]
    refine ⟨fun h0 => absurd h0 (st.ready S (by
      cases pq with
      | cons p _ => exact .inl (by simp)
      | nil =>
        cases ps with
        | cons p _ => exact .inr (by simp)
        | nil => simp at hf)), fun i hi => ?_⟩
    obtain ⟨hil, oi, hoi, hall⟩ := mem_ready.1 hi
    have hiN : i < M := by
      rcases Nat.lt_or_ge i M with h | h
      · exact h
      · have key : ∀ k, k < M → listed.getD k true = false → i < M := fun k hk1 hk2 => absurd hi (tail_waits S.sink S.chain S.lt inv _ k rfl hk1 hk2 i h)
        cases pq with
        | cons p _ => exact key p.1 (st.q p (by simp)).2.1 (st.q p (by simp)).2.2.1
        | nil =>
          cases ps with
          | cons p _ => exact key p.1 (st.s p (by simp)).2.1 (st.s p (by simp)).2.2.1
          | nil => simp at hf
    have hap : ∀ r : Nat × Oper, r.1 < i → listed.getD r.1 true = false → ops[r.1]? = some r.2 → r.1 < N ∧ r.2.apart ops oi = true := fun r hr hl ho => by
      refine ⟨?_, ?_⟩
      · rcases Nat.lt_or_ge r.1 N with h | h
        · exact h
        · have := spec_of hsp h hr hiN
          rw [not_waits hi hl] at this; cases this
      · rcases S.pair r.1 i r.2 oi hr hiN ho hoi with h | h
        · rw [not_waits hi hl] at h; cases h
        · exact h
    unfold wpOp
    simp only [hoi]
    rcases st.all i hiN hil with ⟨p, hp, rfl⟩ | ⟨p, hp, rfl⟩
    · obtain ⟨pre, post, rfl⟩ := split_at hp
      obtain ⟨_, _, _, hpo⟩ := st.q p hp
      have heq : oi = p.2 := Option.some.inj (hoi.symm.trans hpo)
      subst heq
      have m1 := (pair_mid st.sq).1
      rw [List.map_append, List.map_cons] at hL
      obtain ⟨v, hy, hR⟩ := LqC.pick p.2 (post.map Prod.snd) (fun cs b => S.sel p.1 p.2 cs b hoi) (pre.map Prod.snd) a (fun o ho => by
        obtain ⟨r, hr, rfl⟩ := List.mem_map.1 ho
        obtain ⟨_, _, r2, r3⟩ := st.q r (by simp [hr])
        exact ⟨(hap r (m1 r hr) r2 r3).2, fun cs b => S.sel r.1 r.2 cs b r3⟩) hL
      rw [← List.map_append] at hR
      have hlen : (pre ++ post).length + ps.length = f := by simp at hf ⊢; omega
      rcases hy with ⟨hwt, hm⟩ | ⟨hwt, rfl⟩
      · rw [if_pos hwt]
        refine Or.inl ?_
        have h3 := hm w hw
        unfold Oper.wp
        generalize (execOp a.eval p.2).run P w = res at *
        cases res with
        | ok nx w' =>
          cases nx <;> simp only [mkUpon] at h3 <;> simp only [Oper.upon]
          case value u =>
            obtain ⟨e1, e2⟩ := h3
            rw [e1, e2]
            exact ih _ _ _ _ _ _ hlen (inv.set hi hiN) st.quiet hw hst hk hR
          case skip =>
            obtain ⟨e1, e2⟩ := h3
            rw [e1, ← e2]
            exact ih _ _ _ _ _ _ hlen (inv.set hi hiN) st.quiet hw hst hk hR
          case enter g args =>
            obtain ⟨e1, hc⟩ := h3
            rw [e1]
            exact Calls.mono hc fun e w'' ⟨he, hb⟩ => by subst he; exact ih _ _ _ _ _ _ hlen (inv.set hi hiN) st.quiet (hC _ _ hw hb) hst (hst _ _ hk hb) hR
        | halt x w' => simp only [mkUpon] at h3
      · rw [if_neg (by rw [hwt]; exact Bool.false_ne_true)]
        exact ih _ _ _ _ _ _ hlen (inv.set hi hiN) st.quiet hw hst hk hR
    · obtain ⟨pre, post, rfl⟩ := split_at hp
      obtain ⟨_, _, _, hpo⟩ := st.s p hp
      have heq : oi = p.2 := Option.some.inj (hoi.symm.trans hpo)
      subst heq
      have hpre : pre = [] := by
        cases pre with
        | nil => rfl
        | cons r rest =>
          obtain ⟨r1, r2, r3, r4⟩ := st.s r (by simp)
          have h1 : r.1 < p.1 := (List.pairwise_cons.1 st.ss).1 p (by simp)
          have := (hap r h1 r3 r4).1
          omega
      subst hpre
      rw [List.nil_append] at hL st hf
      rw [List.map_cons] at hL
      obtain ⟨Po, g0, g1, g2, g3⟩ := ChC.pick p.2 (post.map Prod.snd) (fun cs b => S.sel p.1 p.2 cs b hoi) (pq.map Prod.snd) Kn a (fun o ho => by
        obtain ⟨r, hr, rfl⟩ := List.mem_map.1 ho
        obtain ⟨r1, _, r2, r3⟩ := st.q r hr
        have := (st.s p (by simp)).1
        exact ⟨(hap r (by omega) r2 r3).2, fun cs b => S.sel r.1 r.2 cs b r3⟩) hL
      have hlen : pq.length + post.length = f := by simp at hf ⊢; omega
      have hwt : Region.wanted p.2 (yielded ops a.tmps) = true := by simp [Region.wanted, g0]
      rw [if_pos hwt]
      refine Or.inl ?_
      have h3 := g2 w hw hk
      unfold Oper.wp
      generalize (execOp a.eval p.2).run P w = res at *
      cases res with
      | ok nx w' =>
        cases nx <;> simp only [spOut] at h3 <;> simp only [Oper.upon]
        case value u => exact ih _ _ _ _ _ _ hlen (inv.set hi hiN) st.special h3.1 (g1 u) h3.2 (g3 u)
        case skip => exact ih _ _ _ _ _ _ hlen (inv.set hi hiN) st.special h3.1 (g1 _) h3.2 (g3 _)
        case enter g args =>
          obtain ⟨e1, hc⟩ := h3
          rw [e1]
          exact Calls.mono hc fun e w'' ⟨v, he, hc, hp⟩ => by subst he; exact ih _ _ _ _ _ _ hlen (inv.set hi hiN) st.special hc (g1 v) hp (g3 v)
      | halt x w' => simp only [spOut] at h3
end

section
variable {P : Program}
theorem any_region_chainT {Q : Exit → Act → World → Prop} {a : Act} {w : World} {l : List Oper} (n m : Nat) (C K0 : World → Prop) (hn : n ≤ m) (hS : shapeB .any l.toArray m = true) (hsp : specB .any l.toArray n m = true) (hseq : Region.seqB .any l.toArray (l.drop m).length m (headDone l.toArray.size m) = true) (hC : StaysC C) (hw : C w) (hK : StaysC K0) (hk : K0 w)
    (h : LqC P l.toArray C (fun a => ChC P C (fun Kn a => ∀ w, C w → Kn w → wpList P l.toArray Q (l.drop m) a w) ((l.take m).drop n) K0 a) (l.take n) a) : wpAny P .any l.toArray Q l.toArray.size (Array.replicate l.toArray.size false) a { w with drawn := w.drawn + 1 } := by
  have S := shape_of hS
  have hle : m < l.length := by simpa using S.lt
  have htake : (l.take n).length = n := by simp; omega
  have hdrop : ((l.take m).drop n).length = m - n := by simp; omega
  have H := chainT_any (P := P) (Q := Q) (md := .any) (l.drop m) S hsp (fun j => by simp [List.getElem?_drop]) hseq hC m (Array.replicate l.toArray.size false) a { w with drawn := w.drawn + 1 } K0 (placed 0 (l.take n)) (placed n ((l.take m).drop n)) (by rw [placed_len, placed_len, htake, hdrop]; omega)
    ⟨by simp, fun j oj _ hl => (by rw [getD_replicate_false] at hl; cases hl), fun t _ ht => getD_in (by simpa using ht) (getD_replicate_false _ _)⟩
    { size := by simp
      le := S.lt
      tail := fun t _ ht => getD_in (by simpa using ht) (getD_replicate_false _ _)
      all := fun i hi _ => by
        by_cases e : i < n
        · exact Or.inl (placed_all _ 0 i (by omega) (by rw [htake]; omega))
        · exact Or.inr (placed_all _ n i (by omega) (by rw [hdrop]; omega))
      q := fun p hp => by
        obtain ⟨p1, p2, p3⟩ := placed_mem _ 0 p hp
        rw [htake] at p2
        refine ⟨by omega, by omega, getD_in (by simp; omega) (getD_replicate_false _ _), ?_⟩
        rw [Nat.sub_zero, List.getElem?_take, if_pos (by omega)] at p3
        simpa using p3
      s := fun p hp => by
        obtain ⟨p1, p2, p3⟩ := placed_mem _ n p hp
        rw [hdrop] at p2
        refine ⟨p1, by omega, getD_in (by simp; omega) (getD_replicate_false _ _), ?_⟩
        rw [List.getElem?_drop, show n + (p.1 - n) = p.1 by omega, List.getElem?_take, if_pos (by omega)] at p3
        simpa using p3
      sq := placed_sorted _ _
      ss := placed_sorted _ _ }
    (hC _ _ hw ⟨rfl, rfl, rfl, Nat.le_refl _, fun _ _ => rfl⟩) hK (hK _ _ hk ⟨rfl, rfl, rfl, Nat.le_refl _, fun _ _ => rfl⟩)
    (by
      rw [placed_snd, placed_snd]
      exact h)
  have hfuel : m + (l.drop m).length = l.toArray.size := by simp; omega
  rw [hfuel] at H
  exact H
theorem wp_region_chainT {id : Nat} {Q : Exit → Act → World → Prop} {a : Act} {w : World} {l : List Oper} (n m : Nat) (C K0 : World → Prop) (hm : P.follows .mixedOrders = true) (hn : decide (n ≤ m) = true) (hS : shapeB .any l.toArray m = true) (hsp : specB .any l.toArray n m = true) (hseq : Region.seqB .any l.toArray (l.drop m).length m (headDone l.toArray.size m) = true) (hC : StaysC C) (hw : C w) (hK : StaysC K0) (hk : K0 w)
    (h : LqC P l.toArray C (fun a => ChC P C (fun Kn a => ∀ w, C w → Kn w → wpList P l.toArray Q (l.drop m) a w) ((l.take m).drop n) K0 a) (l.take n) a) : (Code.region id l.toArray true).wp P Q a w :=
  wp_region_any hm (any_region_chainT n m C K0 (of_decide_eq_true hn) hS hsp hseq hC hw hK hk h)
theorem wpIn_region_chainT {L id : Nat} {Q : Exit → Act → World → Prop} {a : Act} {w : World} {l : List Oper} (n m : Nat) (C K0 : World → Prop) (hm : P.follows .mixedOrders = true) (hn : decide (n ≤ m) = true) (hS : shapeB .any l.toArray m = true) (hsp : specB .any l.toArray n m = true) (hseq : Region.seqB .any l.toArray (l.drop m).length m (headDone l.toArray.size m) = true) (hd : noDefer l = true) (hQ : ¬ LetsOut Q) (hC : StaysC C) (hw : C w) (hK : StaysC K0) (hk : K0 w)
    (h : LqC P l.toArray C (fun a => ChC P C (fun Kn a => ∀ w, C w → Kn w → wpList P l.toArray Q (l.drop m) a w) ((l.take m).drop n) K0 a) (l.take n) a) : (Code.region id l.toArray true).wpIn (Fence.wide.inRound L) 0 P Q a w := by
  refine wpIn_region_any hm (any_in (fun i o hi c hc => ?_) hQ _ _ _ _ (any_region_chainT n m C K0 (of_decide_eq_true hn) hS hsp hseq hC hw hK hk h))
  unfold noDefer at hd
  have := List.all_eq_true.1 hd o (by
    rw [List.getElem?_toArray] at hi
    exact List.mem_of_getElem? hi)
  rw [hc] at this
  cases this
end

end Go.Proofs.YtoladolgmeanhaaGreat

/- The operations of chained regions (ChainT): a quiet one, one that builds a slice, an append, a call. Nothing here speaks of one program. -/
namespace Go.Proofs.YtoladolgmeanhaaGreat
open Go.RowKit

section
variable {P : Program} {ops : Array Oper} {C : World → Prop}

structure InC (C : World → Prop) where
  world : World
  ok : C world
theorem LqC_on {E : Act → Prop} {a : Act} {o : Oper} {rest : List Oper}
    (h : ∀ K : Act → Prop, (∀ a, LqC P ops C E rest a → K a) → if Region.wanted o (yielded ops a.tmps) then ∃ v, (∀ n : InC C, mkUpon P n.world v ((execOp a.eval o).run P n.world)) ∧ K (a.put o.dst v) else K (a.put o.dst undef)) : LqC P ops C E (o :: rest) a :=
  LqC_step fun K hK => by
    have h1 := h K hK
    by_cases hw : Region.wanted o (yielded ops a.tmps) = true
    · rw [if_pos hw] at h1 ⊢
      obtain ⟨v, h2, h3⟩ := h1
      exact ⟨v, fun w hw => h2 ⟨w, hw⟩, h3⟩
    · rw [if_neg hw] at h1 ⊢
      exact h1
theorem ChC_build {E : (World → Prop) → Act → Prop} {Kn : World → Prop} {a : Act} {o : Oper} {rest : List Oper} (hgd : o.guard = none) (m : Nat) (cs : Array Value) (t : TypeId)
    (hrun : ∀ w, (execOp a.eval o).run P w = .ok (.value (.slice (some ⟨w.heap.size, 0, none⟩) m m)) (w.alloc (.cells cs t))) (hC : StaysC C) (hK : StaysC Kn)
    (h : ∀ v, ChC P C E rest (fun w => Kn w ∧ ∃ B, v = .slice (some ⟨B, 0, none⟩) m m ∧ w.heap[B]? = some (.cells cs t)) (a.put o.dst v)) : ChC P C E (o :: rest) Kn a := by
  refine ⟨hgd, fun v w => Kn w ∧ ∃ B, v = .slice (some ⟨B, 0, none⟩) m m ∧ w.heap[B]? = some (.cells cs t), fun v w w' hk hb => ?_, fun w hw hk => ?_, h⟩
  · obtain ⟨k, B, e1, e2⟩ := hk
    exact ⟨hK _ _ k hb, B, e1, (hb.block B (((Array.getElem?_eq_some_iff.1 e2).1))).trans e2⟩
  · rw [hrun w]
    exact ⟨hC _ _ hw (Below.al1 w _), hK _ _ hk (Below.al1 w _), _, rfl, World.alloc_heap_new w _⟩
theorem ChC_append {E : (World → Prop) → Act → Prop} {Kn : World → Prop} {a : Act} {o : Oper} {rest : List Oper} (hgd : o.guard = none) (s x : Operand) (t : TypeId)
    (ho : o.op = .call { callee := .builtin .append, args := #[s, x], argTypes := #[t, t] })
    (base : Nat) (e : TypeId) (i : TypeInfo) (z : Value) (size bytes : Nat) (ht : P.underlying t = some (.slice e)) (hi : P.info? e = some i) (hz : i.zero = some z)
    (hsize : i.size = size) (hby : i.bytes = bytes) (hzs : z.cells.size = size) (hsz : 0 < size)
    (v : Value) (n : Nat) (xs : List Value) (hs : a.eval s = v) (vx : Value) (m : Nat) (news : List Value) (hx : a.eval x = vx) (hl : news.length = m * size) (h1 : ∀ u ∈ news, u.oneCell' = true)
    (h63 : n + m ≤ maxLen) (hbytes : (n + m) * bytes ≤ 140737488355328)
    (hin : ∀ w, C w → Kn w → w.ownsRow base e size v n xs ∧ base ≤ w.heap.size ∧ ∃ p c, vx = .slice p m c ∧ ((p = none ∧ m = 0 ∧ c = 0) ∨ ∃ ad, p = some ad ∧ ∀ j u, news[j]? = some u → w.cell? (ad.add j) = some u))
    (Z : Nat) (hZ : ∀ w, C w → Z ≤ w.heap.size) (hC : ∀ w w', C w → Kn w → w.grownBy w' v.ownBlock → C w')
    (h : ∀ v', ChC P C E rest (fun w => w.ownsRow base e size v' (n + m) (xs ++ news) ∧ ∀ k, v'.ownBlock = some k → v.ownBlock = some k ∨ Z ≤ k) (a.put o.dst v')) : ChC P C E (o :: rest) Kn a := by
  refine ⟨hgd, fun v' w => w.ownsRow base e size v' (n + m) (xs ++ news) ∧ ∀ k, v'.ownBlock = some k → v.ownBlock = some k ∨ Z ≤ k, fun v w w' hk hb => ⟨?_, hk.2⟩, fun w hw hk => ?_, h⟩
  · exact (Turns.of_below' (T := fun _ => False) hb).owns hk.1 (fun _ _ h => h)
  · obtain ⟨g1, g2, p, c, rfl, g3⟩ := hin w hw hk
    obtain ⟨v', w', hr, r2, r3, r4⟩ := run_append_mine (P := P) w base t o.type e i z size bytes ht hi hz hsize hby hzs hsz v n xs g1 p m c news hl g3 h1 h63 hbytes g2
    unfold execOp
    simp only [ho, resolve, invoke, builtin, Sem.run_bind, Sem.run_pure, Result.andThen_ok, List.map_toArray, List.map_cons, List.map_nil, hs, hx, hr]
    exact ⟨hC w w' hw hk r3, r2, fun k hk => (r4 k hk).imp id fun h => Nat.le_trans (hZ w hw) h⟩
theorem ChC_call {E : (World → Prop) → Act → Prop} {Kn : World → Prop} {a : Act} {o : Oper} {rest : List Oper} (hgd : o.guard = none) (f : FuncId) (args : Array Value)
    (hrun : ∀ w, (execOp a.eval o).run P w = .ok (.enter f args) w) (Po : Value → World → Prop) (hst : ∀ v, StaysC (Po v))
    (hcall : ∀ w, C w → Kn w → Calls P f args w fun e w' => ∃ v, e = .returned v ∧ C w' ∧ Po v w')
    (h : ∀ v, ChC P C E rest (Po v) (a.put o.dst v)) : ChC P C E (o :: rest) Kn a := by
  refine ⟨hgd, Po, hst, fun w hw hk => ?_, h⟩
  rw [hrun w]
  exact ⟨rfl, hcall w hw hk⟩
end

end Go.Proofs.YtoladolgmeanhaaGreat
