/- Regions that draw their order, whose head reads, calls what keeps all that there is, and makes new things by calls or boxes that hang on nothing of each other: one walk of the head serves every order. Nothing here speaks of one program. -/
import Derived.Test.YtpddkhhdleknnaaZ23
namespace Go.Proofs.Ytpddkhhdleknnaa
open Go.RowKit

section
variable {P : Program} {ops : Array Oper} {W : World} {md : Region.Mode}

/-- One who makes something new, and what is known of it. -/
structure Maker where
  id : Nat
  op : Oper
  post : Value → World → Prop

/-- The makers, each in whatever world there is behind W; what they told is known in the end. -/
def Ma (P : Program) (W : World) (F : (World → Prop) → Act → Prop) : List Maker → (World → Prop) → Act → Prop
  | [], Kn, a => F Kn a
  | j :: rest, Kn, a => (∀ m : After W, mkOut P m.world j.post ((execOp a.eval j.op).run P m.world)) ∧ ∀ v, Ma P W F rest (fun w => Kn w ∧ j.post v w) (a.put j.op.dst v)

theorem Ma.weak {F : (World → Prop) → Act → Prop} (hF : ∀ (K K' : World → Prop) a, (∀ w, K' w → K w) → F K a → F K' a) : ∀ (l : List Maker) (K K' : World → Prop) (a : Act), (∀ w, K' w → K w) → Ma P W F l K a → Ma P W F l K' a
  | [], K, K', a, h, hm => hF K K' a h hm
  | _ :: l, _, _, _, h, hm => ⟨hm.1, fun v => Ma.weak hF l _ _ _ (fun w hw => ⟨h w hw.1, hw.2⟩) (hm.2 v)⟩

/-- One of them may come up ahead of others that are apart from it. -/
theorem Ma.pick {F : (World → Prop) → Act → Prop} (hF : ∀ (K K' : World → Prop) a, (∀ w, K' w → K w) → F K a → F K' a) (j : Maker) (post : List Maker) (hj : ∀ cs b, j.op.op ≠ .select cs b) : ∀ (pre : List Maker) (Kn : World → Prop) (a : Act), (∀ p ∈ pre, p.op.apart ops j.op = true ∧ ∀ cs b, p.op.op ≠ .select cs b) →
    Ma P W F (pre ++ j :: post) Kn a → (∀ m : After W, mkOut P m.world j.post ((execOp a.eval j.op).run P m.world)) ∧ ∀ v, Ma P W F (pre ++ post) (fun w => Kn w ∧ j.post v w) (a.put j.op.dst v)
  | [], _, _, _, h => h
  | i :: pre, Kn, a, hap, h => by
    obtain ⟨h1, h2⟩ := h
    obtain ⟨hi, hsi⟩ := hap i (by simp)
    obtain ⟨e1, e2, e3⟩ := Oper.apart_spec hi
    have ih := fun v => Ma.pick hF j post hj pre _ _ (fun p hp => hap p (by simp [hp])) (h2 v)
    refine ⟨?_, fun v => ⟨?_, fun vi => ?_⟩⟩
    · have := (ih undef).1
      rwa [execOp_put j.op hj a i.op.dst undef e1] at this
    · rwa [execOp_put i.op hsi a j.op.dst v e3]
    · have := (ih vi).2 v
      rw [Act.put_comm a vi v e2] at this
      exact Ma.weak hF _ _ _ _ (fun w hw => ⟨⟨hw.1.1, hw.2⟩, hw.1.2⟩) this

/-- Where the walk stands. -/
structure StandM (ops : Array Oper) (N : Nat) (W : World) (listed : Array Bool) (w : World) (pq : List (Nat × Oper)) (pm : List Maker) : Prop where
  size : listed.size = ops.size
  all : ∀ i, i < N → listed.getD i true = false → (∃ p ∈ pq, p.1 = i) ∨ (∃ p ∈ pm, p.id = i)
  q : ∀ p ∈ pq, p.1 < N ∧ listed.getD p.1 true = false ∧ ops[p.1]? = some p.2
  m : ∀ p ∈ pm, p.id < N ∧ listed.getD p.id true = false ∧ ops[p.id]? = some p.op ∧ p.op.guard = none
  qm : ∀ p ∈ pq, ∀ r ∈ pm, p.1 ≠ r.id
  sq : pq.Pairwise (fun x y => x.1 < y.1)
  sm : pm.Pairwise (fun x y => x.id < y.id)
  tail : ∀ t, N ≤ t → t < ops.size → listed.getD t true = false
  below : Below W.heap.size W w

theorem StandM.ne {N : Nat} {listed : Array Bool} {w : World} {pq : List (Nat × Oper)} {pm : List Maker} (h : StandM ops N W listed w pq pm) {k : Nat} (hk : k < N) (hle : N ≤ ops.size) : ∀ {i : Nat}, (listed.setIfInBounds k true).getD i true = false → k ≠ i ∧ listed.getD i true = false := fun {i} hi => by
  have hps : k < listed.size := by rw [h.size]; omega
  by_cases e : k = i
  · subst e; rw [getD_set_same hps] at hi; cases hi
  · rw [getD_set_ne true e] at hi; exact ⟨e, hi⟩

theorem StandM.quiet {N : Nat} {listed : Array Bool} {w w'' : World} {pre post : List (Nat × Oper)} {p : Nat × Oper} {pm : List Maker} (h : StandM ops N W listed w (pre ++ p :: post) pm) (hle : N ≤ ops.size) (hb : Below w.heap.size w w'') : StandM ops N W (listed.setIfInBounds p.1 true) w'' (pre ++ post) pm := by
  obtain ⟨hpN, hpl, hpo⟩ := h.q p (by simp)
  obtain ⟨m1, m2⟩ := pair_mid h.sq
  have hother : ∀ r ∈ pre ++ post, r.1 ≠ p.1 := fun r hr e => by
    have hsq := h.sq
    rw [List.pairwise_append] at hsq
    obtain ⟨_, s2, s3⟩ := hsq
    rw [List.pairwise_cons] at s2
    rcases List.mem_append.1 hr with hr | hr
    · have := m1 r hr; omega
    · have := s2.1 r hr; omega
  exact {
    size := by simp [h.size]
    all := fun i hi hl => by
      obtain ⟨e, hl'⟩ := h.ne hpN hle hl
      rcases h.all i hi hl' with ⟨r, hr, hri⟩ | ⟨r, hr, hri⟩
      · rcases mem_mid hr with rfl | hr
        · exact absurd hri e
        · exact Or.inl ⟨r, hr, hri⟩
      · exact Or.inr ⟨r, hr, hri⟩
    q := fun r hr => by
      obtain ⟨r1, r2, r3⟩ := h.q r (mid_mem hr)
      exact ⟨r1, by rw [getD_set_ne true (Ne.symm (hother r hr))]; exact r2, r3⟩
    m := fun r hr => by
      obtain ⟨r1, r2, r3⟩ := h.m r hr
      have := h.qm p (by simp) r hr
      exact ⟨r1, by rw [getD_set_ne true this]; exact r2, r3⟩
    qm := fun x hx r hr => h.qm x (mid_mem hx) r hr
    sq := m2
    sm := h.sm
    tail := fun t ht ht' => by rw [getD_set_ne true (by omega)]; exact h.tail t ht ht'
    below := h.below.trans (hb.mono h.below.size) }

theorem StandM.made {N : Nat} {listed : Array Bool} {w w'' : World} {pq : List (Nat × Oper)} {pre post : List Maker} {p : Maker} (h : StandM ops N W listed w pq (pre ++ p :: post)) (hle : N ≤ ops.size) (hb : Below w.heap.size w w'') : StandM ops N W (listed.setIfInBounds p.id true) w'' pq (pre ++ post) := by
  obtain ⟨hpN, hpl, hpo⟩ := h.m p (by simp)
  have hsm := h.sm
  rw [List.pairwise_append] at hsm
  obtain ⟨s1, s2, s3⟩ := hsm
  rw [List.pairwise_cons] at s2
  have hother : ∀ r ∈ pre ++ post, r.id ≠ p.id := fun r hr e => by
    rcases List.mem_append.1 hr with hr | hr
    · have := s3 r hr p (by simp); omega
    · have := s2.1 r hr; omega
  exact {
    size := by simp [h.size]
    all := fun i hi hl => by
      obtain ⟨e, hl'⟩ := h.ne hpN hle hl
      rcases h.all i hi hl' with ⟨r, hr, hri⟩ | ⟨r, hr, hri⟩
      · exact Or.inl ⟨r, hr, hri⟩
      · rcases mem_mid hr with rfl | hr
        · exact absurd hri e
        · exact Or.inr ⟨r, hr, hri⟩
    q := fun r hr => by
      obtain ⟨r1, r2, r3⟩ := h.q r hr
      have := h.qm r hr p (by simp)
      exact ⟨r1, by rw [getD_set_ne true (Ne.symm this)]; exact r2, r3⟩
    m := fun r hr => by
      obtain ⟨r1, r2, r3⟩ := h.m r (mid_mem hr)
      exact ⟨r1, by rw [getD_set_ne true (Ne.symm (hother r hr))]; exact r2, r3⟩
    qm := fun x hx r hr => h.qm x hx r (mid_mem hr)
    sq := h.sq
    sm := List.pairwise_append.2 ⟨s1, s2.2, fun a ha b hb => s3 a ha b (by simp [hb])⟩
    tail := fun t ht ht' => by rw [getD_set_ne true (by omega)]; exact h.tail t ht ht'
    below := h.below.trans (hb.mono h.below.size) }

theorem StandM.ready {N : Nat} {listed : Array Bool} {w : World} {pq : List (Nat × Oper)} {pm : List Maker} (S : Shape md ops N) (h : StandM ops N W listed w pq pm) (hne : 0 < pq.length + pm.length) : Region.ready md ops listed ≠ [] := by
  have key : ∀ (i : Nat) (o : Oper), i < N → listed.getD i true = false → ops[i]? = some o → (∀ r ∈ pq, i ≤ r.1) → (∀ r ∈ pm, i ≤ r.id) → i ∈ Region.ready md ops listed := fun i o p1 p2 p3 hm1 hm2 => by
    refine mem_ready.2 ⟨p2, o, p3, fun e he hb => ?_⟩
    have hlt := S.back i o p1 p3 e he hb
    cases hl : listed.getD e.on false
    · have h1 : listed.getD e.on true = false := getD_in (by rw [h.size]; have := S.le; omega) hl
      rcases h.all e.on (by omega) h1 with ⟨r, hr, hri⟩ | ⟨r, hr, hri⟩
      · have := hm1 r hr; omega
      · have := hm2 r hr; omega
    · rfl
  intro hnil
  have minq : pq = [] ∨ ∃ p ∈ pq, ∀ r ∈ pq, p.1 ≤ r.1 := by
    cases pq with
    | nil => exact .inl rfl
    | cons p rest =>
      refine .inr ⟨p, by simp, fun r hr => ?_⟩
      rcases List.mem_cons.1 hr with rfl | hr
      · exact Nat.le_refl _
      · exact Nat.le_of_lt ((List.pairwise_cons.1 h.sq).1 r hr)
  have minm : pm = [] ∨ ∃ p ∈ pm, ∀ r ∈ pm, p.id ≤ r.id := by
    cases pm with
    | nil => exact .inl rfl
    | cons p rest =>
      refine .inr ⟨p, by simp, fun r hr => ?_⟩
      rcases List.mem_cons.1 hr with rfl | hr
      · exact Nat.le_refl _
      · exact Nat.le_of_lt ((List.pairwise_cons.1 h.sm).1 r hr)
  have go : ∃ i, i ∈ Region.ready md ops listed := by
    rcases minq with e1 | ⟨p, hp, hpm⟩
    · rcases minm with e2 | ⟨r, hr, hrm⟩
      · subst e1 e2; simp at hne
      · obtain ⟨r1, r2, r3, -⟩ := h.m r hr
        exact ⟨_, key r.id r.op r1 r2 r3 (fun x hx => by rw [e1] at hx; cases hx) hrm⟩
    · obtain ⟨p1, p2, p3⟩ := h.q p hp
      rcases minm with e2 | ⟨r, hr, hrm⟩
      · exact ⟨_, key p.1 p.2 p1 p2 p3 hpm (fun x hx => by rw [e2] at hx; cases hx)⟩
      · obtain ⟨r1, r2, r3, -⟩ := h.m r hr
        rcases Nat.le_total p.1 r.id with hle | hle
        · exact ⟨_, key p.1 p.2 p1 p2 p3 hpm (fun x hx => Nat.le_trans hle (hrm x hx))⟩
        · exact ⟨_, key r.id r.op r1 r2 r3 (fun x hx => Nat.le_trans hle (hpm x hx)) hrm⟩
  obtain ⟨i, hi⟩ := go
  rw [hnil] at hi
  cases hi

theorem StandM.done {N : Nat} {listed : Array Bool} {w : World} (S : Shape md ops N) (h : StandM ops N W listed w [] []) : listed = headDone ops.size N := by
  have hle := S.le
  apply Array.ext
  · rw [h.size]; simp [headDone]; omega
  · intro i h1 h2
    rw [h.size] at h1
    by_cases hi : i < N
    · have : listed.getD i true = true := by
        cases hl : listed.getD i true
        · rcases h.all i hi hl with ⟨r, hr, _⟩ | ⟨r, hr, _⟩ <;> cases hr
        · rfl
      have hs : i < listed.size := by rw [h.size]; exact h1
      have e1 : listed[i] = true := by simpa [hs] using this
      rw [e1]
      simp [headDone, hi]
    · have := h.tail i (by omega) h1
      have hs : i < listed.size := by rw [h.size]; exact h1
      have e1 : listed[i] = false := by simpa [hs] using this
      rw [e1]
      simp [headDone, List.getElem_append, hi]

/-- What is known stays known. -/
def Stays (K : World → Prop) : Prop := ∀ w w', K w → Below w.heap.size w w' → K w'
theorem Stays.and {K J : World → Prop} (h : Stays K) (g : Stays J) : Stays (fun w => K w ∧ J w) := fun _ _ hw hb => ⟨h _ _ hw.1 hb, g _ _ hw.2 hb⟩

/-- WHATEVER ORDER IS DRAWN. -/
theorem makers_any {Q' : Exit → Act → World → Prop} {N : Nat} (tl : List Oper) (S : Shape md ops N) (htl : ∀ j, tl[j]? = ops[N + j]?) (hseq : Region.seqB md ops tl.length N (headDone ops.size N) = true)
    (free : ∀ (i j : Nat) (oi oj : Oper), i < N → j < N → i ≠ j → ops[i]? = some oi → ops[j]? = some oj → Region.waitsFor md ops j i = true ∨ Region.waitsFor md ops i j = true ∨ oi.apart ops oj = true) :
    ∀ (f : Nat) (listed : Array Bool) (a : Act) (w : World) (Kn : World → Prop) (pq : List (Nat × Oper)) (pm : List Maker), pq.length + pm.length = f → HeadInv md ops N listed → StandM ops N W listed w pq pm → Stays Kn → Kn w → (∀ j ∈ pm, ∀ v, Stays (j.post v)) →
      (∀ p ∈ pq, ∀ r ∈ pm, Region.waitsFor md ops p.1 r.id = false) →
      Lq P ops W (Ma P W (fun K a' => ∀ w', Below W.heap.size W w' → K w' → wpList P ops Q' tl a' w') pm Kn) (pq.map Prod.snd) a → wpAny P md ops Q' (f + tl.length) listed a w := by
  intro f
  induction f with
  | zero =>
    intro listed a w Kn pq pm hf inv st hst hkn hps hqm hL
    have e1 : pq = [] := List.length_eq_zero_iff.1 (by omega)
    have e2 : pm = [] := List.length_eq_zero_iff.1 (by omega)
    subst e1 e2
    rw [Nat.zero_add, st.done S]
    exact wpAny_of_seq tl N _ a w htl hseq (hL w st.below hkn)
  | succ f ih =>
    intro listed a w Kn pq pm hf inv st hst hkn hps hqm hL
    rw [show f + 1 + tl.length = (f + tl.length) + 1 by omega]
    refine ⟨fun h0 => absurd h0 (st.ready S (by omega)), fun i hi => ?_⟩
    obtain ⟨hil, oi, hoi, hall⟩ := mem_ready.1 hi
    have hpend : ∃ k, k < N ∧ listed.getD k true = false := by
      cases pq with
      | cons p _ => exact ⟨p.1, (st.q p (by simp)).1, (st.q p (by simp)).2.1⟩
      | nil =>
        cases pm with
        | cons p _ => exact ⟨p.id, (st.m p (by simp)).1, (st.m p (by simp)).2.1⟩
        | nil => simp at hf
    have hiN : i < N := by
      rcases Nat.lt_or_ge i N with h | h
      · exact h
      · obtain ⟨k, hk1, hk2⟩ := hpend
        exact absurd hi (tail_waits S.sink S.chain S.lt inv _ k rfl hk1 hk2 i h)
    have hF : ∀ (K K' : World → Prop) (a : Act), (∀ w, K' w → K w) → (∀ w', Below W.heap.size W w' → K w' → wpList P ops Q' tl a w') → (∀ w', Below W.heap.size W w' → K' w' → wpList P ops Q' tl a w') := fun K K' a hk h w' hb hw => h w' hb (hk w' hw)
    unfold wpOp
    simp only [hoi]
    rcases st.all i hiN hil with ⟨p, hp, rfl⟩ | ⟨p, hp, rfl⟩
    · obtain ⟨pre, post, rfl⟩ := split_at hp
      obtain ⟨_, _, hpo⟩ := st.q p hp
      have heq : oi = p.2 := Option.some.inj (hoi.symm.trans hpo)
      subst heq
      have m1 := (pair_mid st.sq).1
      have hL' := hL
      rw [List.map_append, List.map_cons] at hL'
      obtain ⟨v, hy, hR⟩ := Lq.pick p.2 (post.map Prod.snd) (fun cs b => S.sel p.1 p.2 cs b hoi) (pre.map Prod.snd) a (fun o ho => by
        obtain ⟨r, hr, rfl⟩ := List.mem_map.1 ho
        obtain ⟨_, r2, r3⟩ := st.q r (by simp [hr])
        refine ⟨?_, fun cs b => S.sel r.1 r.2 cs b r3⟩
        rcases S.pair r.1 p.1 r.2 p.2 (m1 r hr) hiN r3 hoi with h | h
        · rw [not_waits hi r2] at h; cases h
        · exact h) hL'
      rw [← List.map_append] at hR
      have hlen : (pre ++ post).length + pm.length = f := by simp at hf ⊢; omega
      have hnext : ∀ w'', Below w.heap.size w w'' → wpAny P md ops Q' (f + tl.length) (listed.setIfInBounds p.1 true) (a.put p.2.dst v) w'' := fun w'' hb =>
        ih _ _ _ Kn _ _ hlen (inv.set hi hiN) (st.quiet S.le hb) hst (hst _ _ hkn hb) hps (fun x hx r hr => hqm x (mid_mem hx) r hr) hR
      rcases hy with ⟨hw, hm⟩ | ⟨hw, rfl⟩
      · rw [if_pos hw]
        refine Or.inl ?_
        have h3 := hm ⟨w, st.below⟩
        unfold Oper.wp
        simp only at h3
        generalize (execOp a.eval p.2).run P w = res at *
        cases res with
        | ok nx w' =>
          cases nx <;> simp only [mkUpon] at h3 <;> simp only [Oper.upon]
          case value u =>
            obtain ⟨e1, e2⟩ := h3
            rw [e1, e2]
            exact hnext _ (Below.refl _ _)
          case skip =>
            obtain ⟨e1, e2⟩ := h3
            rw [e1, ← e2]
            exact hnext _ (Below.refl _ _)
          case enter g args =>
            obtain ⟨e1, hc⟩ := h3
            rw [e1]
            exact Calls.mono hc fun e w'' ⟨he, hb⟩ => by subst he; exact hnext _ hb
        | halt x w' => simp only [mkUpon] at h3
      · rw [if_neg (by rw [hw]; exact Bool.false_ne_true)]
        exact hnext _ (Below.refl _ _)
    · obtain ⟨pre, post, rfl⟩ := split_at hp
      obtain ⟨_, _, hpo, hpg⟩ := st.m p hp
      have heq : oi = p.op := Option.some.inj (hoi.symm.trans hpo)
      subst heq
      have hsm := st.sm
      rw [List.pairwise_append] at hsm
      have hapq : ∀ o ∈ pq.map Prod.snd, o.apart ops p.op = true ∧ ∀ cs b, o.op ≠ .select cs b := fun o ho => by
        obtain ⟨r, hr, rfl⟩ := List.mem_map.1 ho
        obtain ⟨r1, r2, r3⟩ := st.q r hr
        refine ⟨?_, fun cs b => S.sel r.1 r.2 cs b r3⟩
        rcases free r.1 p.id r.2 p.op r1 hiN (st.qm r hr p hp) r3 hoi with h | h | h
        · rw [not_waits hi r2] at h; cases h
        · rw [hqm r hr p hp] at h; cases h
        · exact h
      have hapm : ∀ r ∈ pre, r.op.apart ops p.op = true ∧ ∀ cs b, r.op.op ≠ .select cs b := fun r hr => by
        obtain ⟨r1, r2, r3, -⟩ := st.m r (by simp [hr])
        refine ⟨?_, fun cs b => S.sel r.id r.op cs b r3⟩
        rcases S.pair r.id p.id r.op p.op (hsm.2.2 r hr p (by simp)) hiN r3 hoi with h | h
        · rw [not_waits hi r2] at h; cases h
        · exact h
      have hsel : ∀ cs b, p.op.op ≠ .select cs b := fun cs b => S.sel p.id p.op cs b hoi
      have hL2 := Lq.mono (fun a' h => Ma.pick (ops := ops) hF p post hsel pre Kn a' hapm h) _ _ hL
      have hmk := Lq.back (C := fun s => ∀ m : After W, mkOut P m.world p.post (s.run P m.world)) p.op hsel (pq.map Prod.snd) a (fun o ho => (hapq o ho).1) (Lq.mono (fun _ h => h.1) _ _ hL2) ⟨w, st.below⟩
      have hlen : pq.length + (pre ++ post).length = f := by simp at hf ⊢; omega
      have fin : ∀ v w'', Below w.heap.size w w'' → p.post v w'' → wpAny P md ops Q' (f + tl.length) (listed.setIfInBounds p.id true) (a.put p.op.dst v) w'' := fun v w'' hb hpv =>
        ih _ _ _ (fun w => Kn w ∧ p.post v w) _ _ hlen (inv.set hi hiN) (st.made S.le hb) (hst.and (hps p hp v)) ⟨hst _ _ hkn hb, hpv⟩ (fun x hx v' => hps x (mid_mem hx) v') (fun x hx r hr => hqm x hx r (mid_mem hr))
          (Lq.put p.op v (fun a' h => h.2 v) (pq.map Prod.snd) a hapq hL2)
      rw [if_pos (by simp [Region.wanted, hpg])]
      refine Or.inl ?_
      unfold Oper.wp
      simp only at hmk
      generalize (execOp a.eval p.op).run P w = res at *
      cases res with
      | ok nx w' =>
        cases nx <;> simp only [mkOut] at hmk <;> simp only [Oper.upon]
        case value u => exact fin u w' hmk.1 hmk.2
        case enter g args =>
          obtain ⟨rfl, hc⟩ := hmk
          exact Calls.mono hc fun e w'' ⟨v, he, hb, hpv⟩ => by subst he; exact fin v w'' hb hpv
      | halt x w' => simp only [mkOut] at hmk

end

/-- Of the first operations those that the mask bears: the quiet ones, with their places. -/
def pickP : Nat → List Oper → List Bool → List (Nat × Oper)
  | k, o :: l, true :: bs => (k, o) :: pickP (k + 1) l bs
  | k, _ :: l, false :: bs => pickP (k + 1) l bs
  | _, _, _ => []
def pickQ : List Oper → List Bool → List Oper
  | o :: l, true :: bs => o :: pickQ l bs
  | _ :: l, false :: bs => pickQ l bs
  | _, _ => []
/-- The makers, with what is known of what each tells. -/
def pickM : Nat → List Oper → List Bool → List (Value → World → Prop) → List Maker
  | k, _ :: l, true :: bs, ps => pickM (k + 1) l bs ps
  | k, o :: l, false :: bs, p :: ps => ⟨k, o, p⟩ :: pickM (k + 1) l bs ps
  | _, _, _, _ => []
theorem pickP_snd : ∀ (k : Nat) (l : List Oper) (bs : List Bool), (pickP k l bs).map Prod.snd = pickQ l bs
  | k, [], [] => rfl
  | k, [], b :: bs => by cases b <;> rfl
  | k, o :: l, [] => rfl
  | k, o :: l, true :: bs => by simp [pickP, pickQ, pickP_snd (k + 1) l bs]
  | k, o :: l, false :: bs => by simp [pickP, pickQ, pickP_snd (k + 1) l bs]
theorem pickP_mem : ∀ (k : Nat) (l : List Oper) (bs : List Bool) (p : Nat × Oper), p ∈ pickP k l bs → k ≤ p.1 ∧ p.1 < k + bs.length ∧ l[p.1 - k]? = some p.2 ∧ bs[p.1 - k]? = some true
  | k, [], [], p, h => by cases h
  | k, [], b :: bs, p, h => by cases b <;> cases h
  | k, o :: l, [], p, h => by cases h
  | k, o :: l, true :: bs, p, h => by
    rcases List.mem_cons.1 h with rfl | h
    · simp
    · obtain ⟨h1, h2, h3, h4⟩ := pickP_mem (k + 1) l bs p h
      refine ⟨by omega, by simp; omega, ?_, ?_⟩
      · rw [show p.1 - k = (p.1 - (k + 1)) + 1 by omega]; simpa using h3
      · rw [show p.1 - k = (p.1 - (k + 1)) + 1 by omega]; simpa using h4
  | k, o :: l, false :: bs, p, h => by
    obtain ⟨h1, h2, h3, h4⟩ := pickP_mem (k + 1) l bs p h
    refine ⟨by omega, by simp; omega, ?_, ?_⟩
    · rw [show p.1 - k = (p.1 - (k + 1)) + 1 by omega]; simpa using h3
    · rw [show p.1 - k = (p.1 - (k + 1)) + 1 by omega]; simpa using h4
theorem pickM_mem : ∀ (k : Nat) (l : List Oper) (bs : List Bool) (ps : List (Value → World → Prop)) (r : Maker), r ∈ pickM k l bs ps → k ≤ r.id ∧ r.id < k + bs.length ∧ l[r.id - k]? = some r.op ∧ bs[r.id - k]? = some false ∧ r.post ∈ ps
  | k, [], [], _, r, h => by simp [pickM] at h
  | k, [], b :: bs, _, r, h => by simp [pickM] at h
  | k, o :: l, [], _, r, h => by simp [pickM] at h
  | k, o :: l, true :: bs, ps, r, h => by
    obtain ⟨h1, h2, h3, h4, h5⟩ := pickM_mem (k + 1) l bs ps r (by simpa [pickM] using h)
    refine ⟨by omega, by simp; omega, ?_, ?_, h5⟩
    · rw [show r.id - k = (r.id - (k + 1)) + 1 by omega]; simpa using h3
    · rw [show r.id - k = (r.id - (k + 1)) + 1 by omega]; simpa using h4
  | k, o :: l, false :: bs, [], r, h => by simp [pickM] at h
  | k, o :: l, false :: bs, p :: ps, r, h => by
    rw [pickM] at h
    rcases List.mem_cons.1 h with rfl | h
    · simp
    · obtain ⟨h1, h2, h3, h4, h5⟩ := pickM_mem (k + 1) l bs ps r h
      refine ⟨by omega, by simp; omega, ?_, ?_, by simp [h5]⟩
      · rw [show r.id - k = (r.id - (k + 1)) + 1 by omega]; simpa using h3
      · rw [show r.id - k = (r.id - (k + 1)) + 1 by omega]; simpa using h4
theorem pickP_sorted : ∀ (k : Nat) (l : List Oper) (bs : List Bool), (pickP k l bs).Pairwise (fun x y => x.1 < y.1)
  | k, [], [] => List.Pairwise.nil
  | k, [], b :: bs => by cases b <;> exact List.Pairwise.nil
  | k, o :: l, [] => List.Pairwise.nil
  | k, o :: l, true :: bs => List.pairwise_cons.2 ⟨fun p hp => by have := (pickP_mem (k + 1) l bs p hp).1; simp only; omega, pickP_sorted (k + 1) l bs⟩
  | k, o :: l, false :: bs => pickP_sorted (k + 1) l bs
theorem pickM_sorted : ∀ (k : Nat) (l : List Oper) (bs : List Bool) (ps : List (Value → World → Prop)), (pickM k l bs ps).Pairwise (fun x y => x.id < y.id)
  | k, [], [], _ => by simp [pickM]
  | k, [], b :: bs, _ => by simp [pickM]
  | k, o :: l, [], _ => by simp [pickM]
  | k, o :: l, true :: bs, ps => by rw [pickM]; exact pickM_sorted (k + 1) l bs ps
  | k, o :: l, false :: bs, [] => by simp [pickM]
  | k, o :: l, false :: bs, p :: ps => by
    rw [pickM]
    exact List.pairwise_cons.2 ⟨fun r hr => by have := (pickM_mem (k + 1) l bs ps r hr).1; simp only; omega, pickM_sorted (k + 1) l bs ps⟩
theorem pick_all : ∀ (k : Nat) (l : List Oper) (bs : List Bool) (ps : List (Value → World → Prop)) (i : Nat), bs.length ≤ l.length → (bs.filter (!·)).length ≤ ps.length → k ≤ i → i < k + bs.length → (∃ p ∈ pickP k l bs, p.1 = i) ∨ (∃ r ∈ pickM k l bs ps, r.id = i)
  | k, l, [], ps, i, _, _, h1, h2 => by simp at h2; omega
  | k, [], b :: bs, ps, i, h, _, _, _ => by simp at h
  | k, o :: l, true :: bs, ps, i, h, hc, h1, h2 => by
    by_cases e : i = k
    · exact .inl ⟨(k, o), by simp [pickP], e.symm⟩
    · rcases pick_all (k + 1) l bs ps i (by simpa using h) (by simpa using hc) (by omega) (by simp at h2; omega) with ⟨p, hp, hpi⟩ | ⟨r, hr, hri⟩
      · exact .inl ⟨p, by simp [pickP, hp], hpi⟩
      · exact .inr ⟨r, by rw [pickM]; exact hr, hri⟩
  | k, o :: l, false :: bs, [], i, h, hc, h1, h2 => by simp at hc
  | k, o :: l, false :: bs, p :: ps, i, h, hc, h1, h2 => by
    by_cases e : i = k
    · exact .inr ⟨⟨k, o, p⟩, by simp [pickM], e.symm⟩
    · rcases pick_all (k + 1) l bs ps i (by simpa using h) (by simpa using hc) (by omega) (by simp at h2; omega) with ⟨q, hq, hqi⟩ | ⟨r, hr, hri⟩
      · exact .inl ⟨q, hq, hqi⟩
      · exact .inr ⟨r, by rw [pickM]; exact List.mem_cons_of_mem _ hr, hri⟩

theorem pick_len : ∀ (k : Nat) (l : List Oper) (bs : List Bool) (ps : List (Value → World → Prop)), bs.length ≤ l.length → (bs.filter (!·)).length ≤ ps.length → (pickP k l bs).length + (pickM k l bs ps).length = bs.length
  | k, l, [], ps, _, _ => by cases l <;> simp [pickP, pickM]
  | k, [], b :: bs, ps, h, _ => by simp at h
  | k, o :: l, true :: bs, ps, h, hc => by
    have := pick_len (k + 1) l bs ps (by simpa using h) (by simpa using hc)
    simp only [pickP, pickM, List.length_cons]
    omega
  | k, o :: l, false :: bs, [], h, hc => by simp at hc
  | k, o :: l, false :: bs, p :: ps, h, hc => by
    have := pick_len (k + 1) l bs ps (by simpa using h) (by simpa using hc)
    simp only [pickP, pickM, List.length_cons]
    omega

/-- What is asked of the region's edges besides. -/
def makeB (md : Region.Mode) (ops : Array Oper) (bs : List Bool) : Bool :=
  ((List.range bs.length).all fun i => (List.range bs.length).all fun j => i == j || Region.waitsFor md ops j i || Region.waitsFor md ops i j || (match ops[i]?, ops[j]? with | some oi, some oj => oi.apart ops oj | _, _ => false)) &&
  (((List.range bs.length).all fun i => (List.range bs.length).all fun j => !(bs[i]? == some true && bs[j]? == some false) || !Region.waitsFor md ops i j) &&
   ((List.range bs.length).all fun j => !(bs[j]? == some false) || (match ops[j]? with | some o => o.guard.isNone | none => false)))

section
variable {P : Program}

theorem wp_region_makers {id : Nat} {Q : Exit → Act → World → Prop} {a : Act} {w : World} {l : List Oper} (bs : List Bool) (ps : List (Value → World → Prop)) (hm : P.follows .mixedOrders = true) (hS : shapeB .any l.toArray bs.length = true)
    (hseq : Region.seqB .any l.toArray (l.drop bs.length).length bs.length (headDone l.toArray.size bs.length) = true) (hB : makeB .any l.toArray bs = true) (hc : decide ((bs.filter (!·)).length ≤ ps.length) = true) (hps : ∀ p ∈ ps, ∀ v, Stays (p v))
    (h : Lq P l.toArray w (Ma P w (fun K a' => ∀ w', Below w.heap.size w w' → K w' → wpList P l.toArray Q (l.drop bs.length) a' w') (pickM 0 l bs ps) (fun _ => True)) (pickQ l bs) a) : (Code.region id l.toArray true).wp P Q a w := by
  have S := shape_of hS
  have hle : bs.length ≤ l.length := by simpa using S.le
  simp only [makeB, Bool.and_eq_true] at hB
  obtain ⟨hB1, hB2, hB3⟩ := hB
  refine wp_region_any hm ?_
  have hall := fun i hi => pick_all 0 l bs ps i hle (by simpa using hc) (Nat.zero_le _) (by rw [Nat.zero_add]; exact hi)
  have H := makers_any (P := P) (W := w) (md := .any) (Q' := Q) (l.drop bs.length) S (fun j => by simp [List.getElem?_drop]) hseq
    (fun i j oi oj hi hj hij hoi hoj => by
      have := List.all_eq_true.1 (List.all_eq_true.1 hB1 i (List.mem_range.2 hi)) j (List.mem_range.2 hj)
      rw [hoi, hoj] at this
      simp only [Bool.or_eq_true, beq_iff_eq] at this
      rcases this with ((h | h) | h) | h
      · exact absurd h hij
      · exact .inl h
      · exact .inr (.inl h)
      · exact .inr (.inr h))
    _ (Array.replicate l.toArray.size false) a { w with drawn := w.drawn + 1 } (fun _ => True) (pickP 0 l bs) (pickM 0 l bs ps) rfl
    ⟨by simp, fun j oj _ hl => (by rw [getD_replicate_false] at hl; cases hl), fun t _ ht => getD_in (by simpa using ht) (getD_replicate_false _ _)⟩
    { size := by simp
      all := fun i hi _ => hall i hi
      q := fun p hp => by
        obtain ⟨p1, p2, p3, p4⟩ := pickP_mem 0 l bs p hp
        refine ⟨by omega, getD_in (by simp; omega) (getD_replicate_false _ _), by simpa using p3⟩
      m := fun r hr => by
        obtain ⟨p1, p2, p3, p4, p5⟩ := pickM_mem 0 l bs ps r hr
        refine ⟨by omega, getD_in (by simp; omega) (getD_replicate_false _ _), by simpa using p3, ?_⟩
        have := List.all_eq_true.1 hB3 r.id (List.mem_range.2 (by omega))
        rw [Nat.sub_zero] at p3 p4
        rw [p4] at this
        have e : l.toArray[r.id]? = some r.op := by simpa using p3
        rw [e] at this
        simpa using this
      qm := fun p hp r hr e => by
        have h1 := (pickP_mem 0 l bs p hp).2.2.2
        have h2 := (pickM_mem 0 l bs ps r hr).2.2.2.1
        rw [e] at h1
        rw [h1] at h2
        cases h2
      sq := pickP_sorted _ _ _
      sm := pickM_sorted _ _ _ _
      tail := fun t _ ht => getD_in (by simpa using ht) (getD_replicate_false _ _)
      below := ⟨rfl, rfl, rfl, Nat.le_refl _, fun _ _ => rfl⟩ }
    (fun _ _ _ _ => trivial) trivial (fun r hr v => hps _ (pickM_mem 0 l bs ps r hr).2.2.2.2 v)
    (fun p hp r hr => by
      obtain ⟨-, p2, -, p4⟩ := pickP_mem 0 l bs p hp
      obtain ⟨-, r2, -, r4, -⟩ := pickM_mem 0 l bs ps r hr
      have := List.all_eq_true.1 (List.all_eq_true.1 hB2 p.1 (List.mem_range.2 (by omega))) r.id (List.mem_range.2 (by omega))
      rw [Nat.sub_zero] at p4 r4
      rw [p4, r4] at this
      simpa using this)
    (by rw [pickP_snd]; exact h)
  have hcount : (pickP 0 l bs).length + (pickM 0 l bs ps).length + (l.drop bs.length).length = l.toArray.size := by
    rw [pick_len 0 l bs ps hle (by simpa using hc)]; simp; omega
  rw [hcount] at H
  exact H

end

end Go.Proofs.Ytpddkhhdleknnaa
