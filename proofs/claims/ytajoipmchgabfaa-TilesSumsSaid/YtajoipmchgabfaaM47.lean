/- Several texts in one, each with its own head. -/
import Derived.Test.YtajoipmchgabfaaM28
import Derived.Test.YtajoipmchgabfaaM7
import Derived.Test.YtajoipmchgabfaaM5
/- Regions that draw their order, whose head makes new things and puts together what was made: one walk in the text's order serves every order. Nothing here speaks of one program. -/
namespace Go.Proofs.Ytajoipmchgabfaa
open Go.RowKit

section
variable {P : Program} {ops : Array Oper} {W : World} {md : Region.Mode}

/-- An operation that makes something new, of which something is known; or one that only looks at slots. -/
structure Itm where
  id : Nat
  op : Oper
  post : Option (Value → World → Prop)

/-- Something new has been made. -/
def newOut (w : World) (Post : Value → World → Prop) : Result Next → Prop
  | .ok (.value v) w' => Below w.heap.size w w' ∧ Post v w'
  | _ => False

theorem newOut.some {w : World} {p : Value → World → Prop} {r : Result Next} (h : newOut w p r) : ∃ v, ∃ w', p v w' := by
  cases r with
  | ok nx w' =>
    cases nx with
    | value v => exact ⟨v, w', h.2⟩
    | _ => exact h.elim
  | halt x w' => exact h.elim

def Stp (P : Program) (W : World) (j : Itm) (K : (World → Prop) → Act → Prop) (Kn : World → Prop) (a : Act) : Prop :=
  match j.post with
  | some p => (∀ m : After W, newOut m.world p ((execOp a.eval j.op).run P m.world)) ∧ ∀ v, (∃ w, p v w) → K (fun w => Kn w ∧ p v w) (a.put j.op.dst v)
  | none => ∃ v, (∀ m : After W, (execOp a.eval j.op).run P m.world = .ok (.value v) m.world) ∧ K Kn (a.put j.op.dst v)

theorem Stp.mono {j : Itm} {K K' : (World → Prop) → Act → Prop} (h : ∀ Kn a, K Kn a → K' Kn a) {Kn : World → Prop} {a : Act} (hs : Stp P W j K Kn a) : Stp P W j K' Kn a := by
  unfold Stp at hs ⊢
  split
  · rename_i p hp
    rw [hp] at hs
    exact ⟨hs.1, fun v hv => h _ _ (hs.2 v hv)⟩
  · rename_i hp
    rw [hp] at hs
    obtain ⟨v, h1, h2⟩ := hs
    exact ⟨v, h1, h _ _ h2⟩

/-- What is known may be more. -/
def Weak (K : (World → Prop) → Act → Prop) : Prop := ∀ (Kn Kn' : World → Prop) a, (∀ w, Kn' w → Kn w) → K Kn a → K Kn' a
theorem Stp.weak {j : Itm} {K : (World → Prop) → Act → Prop} (hK : Weak K) : Weak (Stp P W j K) := by
  intro Kn Kn' a h hs
  unfold Stp at hs ⊢
  split
  · rename_i p hp
    rw [hp] at hs
    exact ⟨hs.1, fun v hv => hK _ _ _ (fun w hw => ⟨h w hw.1, hw.2⟩) (hs.2 v hv)⟩
  · rename_i hp
    rw [hp] at hs
    obtain ⟨v, h1, h2⟩ := hs
    exact ⟨v, h1, hK _ _ _ h h2⟩

theorem Stp.swap {i j : Itm} {K : (World → Prop) → Act → Prop} (hK : Weak K) (hap : i.op.apart ops j.op = true) (hi : ∀ cs b, i.op.op ≠ .select cs b) (hj : ∀ cs b, j.op.op ≠ .select cs b) {Kn : World → Prop} {a : Act} (h : Stp P W i (Stp P W j K) Kn a) : Stp P W j (Stp P W i K) Kn a := by
  obtain ⟨e1, e2, e3⟩ := Oper.apart_spec hap
  unfold Stp at h ⊢
  cases hpi : i.post with
  | some p =>
    rw [hpi] at h
    obtain ⟨h1, h2⟩ := h
    obtain ⟨v0, hv0⟩ := (h1 ⟨W, Below.refl _ _⟩).some
    cases hpj : j.post with
    | some q =>
      rw [hpj] at h2
      have h2 : ∀ v, (∃ w, p v w) → (∀ m : After W, newOut m.world q ((execOp (a.put i.op.dst v).eval j.op).run P m.world)) ∧ ∀ u, (∃ w, q u w) → K (fun w => (Kn w ∧ p v w) ∧ q u w) ((a.put i.op.dst v).put j.op.dst u) := h2
      refine ⟨?_, fun u hu => ⟨?_, fun v hv => ?_⟩⟩
      · have := (h2 v0 hv0).1
        rwa [execOp_put j.op hj a i.op.dst v0 e1] at this
      · rwa [execOp_put i.op hi a j.op.dst u e3]
      · have := (h2 v hv).2 u hu
        rw [Act.put_comm a v u e2] at this
        exact hK _ _ _ (fun w hw => ⟨⟨hw.1.1, hw.2⟩, hw.1.2⟩) this
    | none =>
      rw [hpj] at h2
      have h2 : ∀ v, (∃ w, p v w) → ∃ u, (∀ m : After W, (execOp (a.put i.op.dst v).eval j.op).run P m.world = .ok (.value u) m.world) ∧ K (fun w => Kn w ∧ p v w) ((a.put i.op.dst v).put j.op.dst u) := h2
      obtain ⟨u0, k1, -⟩ := h2 v0 hv0
      rw [execOp_put j.op hj a i.op.dst v0 e1] at k1
      refine ⟨u0, k1, ?_, fun v hv => ?_⟩
      · rwa [execOp_put i.op hi a j.op.dst u0 e3]
      · obtain ⟨u, k2, k3⟩ := h2 v hv
        rw [execOp_put j.op hj a i.op.dst v e1] at k2
        have e : u0 = u := by
          have := (k1 ⟨W, Below.refl _ _⟩).symm.trans (k2 ⟨W, Below.refl _ _⟩)
          injection this with this _
          injection this
        subst e
        rwa [Act.put_comm a v u0 e2] at k3
  | none =>
    rw [hpi] at h
    obtain ⟨v, h1, h2⟩ := h
    cases hpj : j.post with
    | some q =>
      rw [hpj] at h2
      have h2 : (∀ m : After W, newOut m.world q ((execOp (a.put i.op.dst v).eval j.op).run P m.world)) ∧ ∀ u, (∃ w, q u w) → K (fun w => Kn w ∧ q u w) ((a.put i.op.dst v).put j.op.dst u) := h2
      rw [execOp_put j.op hj a i.op.dst v e1] at h2
      refine ⟨h2.1, fun u hu => ⟨v, ?_, ?_⟩⟩
      · rwa [execOp_put i.op hi a j.op.dst u e3]
      · have := h2.2 u hu
        rwa [Act.put_comm a v u e2] at this
    | none =>
      rw [hpj] at h2
      have h2 : ∃ u, (∀ m : After W, (execOp (a.put i.op.dst v).eval j.op).run P m.world = .ok (.value u) m.world) ∧ K Kn ((a.put i.op.dst v).put j.op.dst u) := h2
      rw [execOp_put j.op hj a i.op.dst v e1] at h2
      obtain ⟨u, k1, k2⟩ := h2
      refine ⟨u, k1, v, ?_, ?_⟩
      · rwa [execOp_put i.op hi a j.op.dst u e3]
      · rwa [Act.put_comm a v u e2] at k2

/-- The operations of the head, in the text's order. -/
def Mq (P : Program) (W : World) (F : (World → Prop) → Act → Prop) : List Itm → (World → Prop) → Act → Prop
  | [] => F
  | j :: rest => Stp P W j (Mq P W F rest)
theorem Mq.weak {F : (World → Prop) → Act → Prop} (hF : Weak F) : ∀ l : List Itm, Weak (Mq P W F l)
  | [] => hF
  | _ :: l => Stp.weak (Mq.weak hF l)
/-- One of them may come up ahead of others that are apart from it. -/
theorem Mq.pick {F : (World → Prop) → Act → Prop} (hF : Weak F) (j : Itm) (post : List Itm) (hj : ∀ cs b, j.op.op ≠ .select cs b) : ∀ (pre : List Itm) (Kn : World → Prop) (a : Act), (∀ p ∈ pre, p.op.apart ops j.op = true ∧ ∀ cs b, p.op.op ≠ .select cs b) →
    Mq P W F (pre ++ j :: post) Kn a → Stp P W j (Mq P W F (pre ++ post)) Kn a
  | [], _, _, _, h => h
  | i :: pre, Kn, a, hap, h => by
    have h1 : Stp P W i (Stp P W j (Mq P W F (pre ++ post))) Kn a := Stp.mono (fun Kn a h => Mq.pick hF j post hj pre Kn a (fun p hp => hap p (by simp [hp])) h) h
    exact Stp.swap (ops := ops) (Mq.weak hF _) (hap i (by simp)).1 (hap i (by simp)).2 hj h1

/-- Where the walk stands. -/
structure StandI (ops : Array Oper) (N : Nat) (W : World) (listed : Array Bool) (w : World) (pl : List Itm) : Prop where
  size : listed.size = ops.size
  all : ∀ i, i < N → listed.getD i true = false → ∃ p ∈ pl, p.id = i
  m : ∀ p ∈ pl, p.id < N ∧ listed.getD p.id true = false ∧ ops[p.id]? = some p.op ∧ p.op.guard = none
  sm : pl.Pairwise (fun x y => x.id < y.id)
  tail : ∀ t, N ≤ t → t < ops.size → listed.getD t true = false
  below : Below W.heap.size W w

theorem StandI.made {N : Nat} {listed : Array Bool} {w w'' : World} {pre post : List Itm} {p : Itm} (h : StandI ops N W listed w (pre ++ p :: post)) (hle : N ≤ ops.size) (hb : Below w.heap.size w w'') : StandI ops N W (listed.setIfInBounds p.id true) w'' (pre ++ post) := by
  obtain ⟨hpN, hpl, hpo⟩ := h.m p (by simp)
  have hsm := h.sm
  rw [List.pairwise_append] at hsm
  obtain ⟨s1, s2, s3⟩ := hsm
  rw [List.pairwise_cons] at s2
  have hother : ∀ r ∈ pre ++ post, r.id ≠ p.id := fun r hr e => by
    rcases List.mem_append.1 hr with hr | hr
    · have := s3 r hr p (by simp); omega
    · have := s2.1 r hr; omega
  have hps : p.id < listed.size := by rw [h.size]; omega
  exact {
    size := by simp [h.size]
    all := fun i hi hl => by
      by_cases e : p.id = i
      · subst e; rw [getD_set_same hps] at hl; cases hl
      · rw [getD_set_ne true e] at hl
        obtain ⟨r, hr, hri⟩ := h.all i hi hl
        rcases mem_mid hr with rfl | hr
        · exact absurd hri e
        · exact ⟨r, hr, hri⟩
    m := fun r hr => by
      obtain ⟨r1, r2, r3⟩ := h.m r (mid_mem hr)
      exact ⟨r1, by rw [getD_set_ne true (Ne.symm (hother r hr))]; exact r2, r3⟩
    sm := List.pairwise_append.2 ⟨s1, s2.2, fun a ha b hb => s3 a ha b (by simp [hb])⟩
    tail := fun t ht ht' => by rw [getD_set_ne true (by omega)]; exact h.tail t ht ht'
    below := h.below.trans (hb.mono h.below.size) }

theorem StandI.ready {N : Nat} {listed : Array Bool} {w : World} {p : Itm} {pl : List Itm} (S : Shape md ops N) (h : StandI ops N W listed w (p :: pl)) : Region.ready md ops listed ≠ [] := by
  obtain ⟨p1, p2, p3, -⟩ := h.m p (by simp)
  have hi : p.id ∈ Region.ready md ops listed := by
    refine mem_ready.2 ⟨p2, p.op, p3, fun e he hb => ?_⟩
    have hlt := S.back p.id p.op p1 p3 e he hb
    cases hl : listed.getD e.on false
    · have h1 : listed.getD e.on true = false := getD_in (by rw [h.size]; have := S.le; omega) hl
      obtain ⟨r, hr, hri⟩ := h.all e.on (by omega) h1
      rcases List.mem_cons.1 hr with rfl | hr
      · omega
      · have := (List.pairwise_cons.1 h.sm).1 r hr; omega
    · rfl
  intro hnil
  rw [hnil] at hi
  cases hi

theorem StandI.done {N : Nat} {listed : Array Bool} {w : World} (S : Shape md ops N) (h : StandI ops N W listed w []) : listed = headDone ops.size N := by
  have hle := S.le
  apply Array.ext
  · rw [h.size]; simp [headDone]; omega
  · intro i h1 h2
    rw [h.size] at h1
    have hs : i < listed.size := by rw [h.size]; exact h1
    by_cases hi : i < N
    · have : listed.getD i true = true := by
        cases hl : listed.getD i true
        · obtain ⟨r, hr, _⟩ := h.all i hi hl
          cases hr
        · rfl
      have e1 : listed[i] = true := by simpa [hs] using this
      rw [e1]
      simp [headDone, hi]
    · have := h.tail i (by omega) h1
      have e1 : listed[i] = false := by simpa [hs] using this
      rw [e1]
      simp [headDone, List.getElem_append, hi]

/-- What is known stays known. -/
def StaysI (K : World → Prop) : Prop := ∀ w w', K w → Below w.heap.size w w' → K w'

/-- WHATEVER ORDER IS DRAWN. -/
theorem itms_any {Q' : Exit → Act → World → Prop} {N : Nat} (tl : List Oper) (S : Shape md ops N) (htl : ∀ j, tl[j]? = ops[N + j]?) (hseq : Region.seqB md ops tl.length N (headDone ops.size N) = true) :
    ∀ (f : Nat) (listed : Array Bool) (a : Act) (w : World) (Kn : World → Prop) (pl : List Itm), pl.length = f → HeadInv md ops N listed → StandI ops N W listed w pl → StaysI Kn → Kn w → (∀ j ∈ pl, ∀ p, j.post = some p → ∀ v, StaysI (p v)) →
      Mq P W (fun K a' => ∀ w', Below W.heap.size W w' → K w' → wpList P ops Q' tl a' w') pl Kn a → wpAny P md ops Q' (f + tl.length) listed a w := by
  intro f
  induction f with
  | zero =>
    intro listed a w Kn pl hf inv st hst hkn hps hL
    have e2 : pl = [] := List.length_eq_zero_iff.1 hf
    subst e2
    rw [Nat.zero_add, st.done S]
    exact wpAny_of_seq tl N _ a w htl hseq (hL w st.below hkn)
  | succ f ih =>
    intro listed a w Kn pl hf inv st hst hkn hps hL
    rw [show f + 1 + tl.length = (f + tl.length) + 1 by omega]
    obtain ⟨q, ql, hql⟩ : ∃ q ql, pl = q :: ql := by
      cases pl with
      | nil => simp at hf
      | cons q ql => exact ⟨q, ql, rfl⟩
    refine ⟨fun h0 => absurd h0 (by subst hql; exact st.ready S), fun i hi => ?_⟩
    obtain ⟨hil, oi, hoi, hall⟩ := mem_ready.1 hi
    have hiN : i < N := by
      rcases Nat.lt_or_ge i N with h | h
      · exact h
      · obtain ⟨k1, k2, -⟩ := st.m q (by rw [hql]; simp)
        exact absurd hi (tail_waits S.sink S.chain S.lt inv _ q.id rfl k1 k2 i h)
    have hF : Weak (fun K a' => ∀ w', Below W.heap.size W w' → K w' → wpList P ops Q' tl a' w') := fun K K' a hk h w' hb hw => h w' hb (hk w' hw)
    unfold wpOp
    simp only [hoi]
    obtain ⟨p, hp, rfl⟩ := st.all i hiN hil
    clear hql
    obtain ⟨pre, post, rfl⟩ := split_at hp
    obtain ⟨_, _, hpo, hpg⟩ := st.m p hp
    have heq : oi = p.op := Option.some.inj (hoi.symm.trans hpo)
    subst heq
    have hsm := st.sm
    rw [List.pairwise_append] at hsm
    have hapm : ∀ r ∈ pre, r.op.apart ops p.op = true ∧ ∀ cs b, r.op.op ≠ .select cs b := fun r hr => by
      obtain ⟨r1, r2, r3, -⟩ := st.m r (by simp [hr])
      refine ⟨?_, fun cs b => S.sel r.id r.op cs b r3⟩
      rcases S.pair r.id p.id r.op p.op (hsm.2.2 r hr p (by simp)) hiN r3 hoi with h | h
      · rw [not_waits hi r2] at h; cases h
      · exact h
    have hsel : ∀ cs b, p.op.op ≠ .select cs b := fun cs b => S.sel p.id p.op cs b hoi
    have hS := Mq.pick (ops := ops) hF p post hsel pre Kn a hapm hL
    have hlen : (pre ++ post).length = f := by simp at hf ⊢; omega
    rw [if_pos (by simp [Region.wanted, hpg])]
    refine Or.inl ?_
    unfold Oper.wp
    unfold Stp at hS
    cases hpp : p.post with
    | some r =>
      rw [hpp] at hS
      obtain ⟨h1, h2⟩ := hS
      have h1 := h1 ⟨w, st.below⟩
      simp only at h1
      generalize (execOp a.eval p.op).run P w = res at *
      cases res with
      | ok nx w' =>
        cases nx <;> simp only [newOut] at h1 <;> simp only [Oper.upon]
        case value u => exact ih _ _ _ (fun w => Kn w ∧ r u w) _ hlen (inv.set hi hiN) (st.made S.le h1.1) (fun _ _ hw hb => ⟨hst _ _ hw.1 hb, hps p hp r hpp u _ _ hw.2 hb⟩) ⟨hst _ _ hkn h1.1, h1.2⟩ (fun x hx => hps x (mid_mem hx)) (h2 u ⟨_, h1.2⟩)
      | halt x w' => simp only [newOut] at h1
    | none =>
      rw [hpp] at hS
      obtain ⟨v, h1, h2⟩ := hS
      have h1 := h1 ⟨w, st.below⟩
      simp only at h1
      rw [h1]
      simp only [Oper.upon]
      exact ih _ _ _ Kn _ hlen (inv.set hi hiN) (st.made S.le (Below.refl _ _)) hst hkn (fun x hx => hps x (mid_mem hx)) h2

/-- The first operations, with what is known of each. -/
def itms : Nat → List Oper → List (Option (Value → World → Prop)) → List Itm
  | k, o :: l, p :: ps => ⟨k, o, p⟩ :: itms (k + 1) l ps
  | _, _, _ => []
theorem itms_mem : ∀ (k : Nat) (l : List Oper) (ps : List (Option (Value → World → Prop))) (r : Itm), r ∈ itms k l ps → k ≤ r.id ∧ r.id < k + ps.length ∧ l[r.id - k]? = some r.op ∧ r.post ∈ ps
  | k, [], ps, r, h => by simp [itms] at h
  | k, o :: l, [], r, h => by simp [itms] at h
  | k, o :: l, p :: ps, r, h => by
    rw [itms] at h
    rcases List.mem_cons.1 h with rfl | h
    · simp
    · obtain ⟨h1, h2, h3, h4⟩ := itms_mem (k + 1) l ps r h
      refine ⟨by omega, by simp; omega, ?_, by simp [h4]⟩
      rw [show r.id - k = (r.id - (k + 1)) + 1 by omega]; simpa using h3
theorem itms_sorted : ∀ (k : Nat) (l : List Oper) (ps : List (Option (Value → World → Prop))), (itms k l ps).Pairwise (fun x y => x.id < y.id)
  | k, [], ps => by simp [itms]
  | k, o :: l, [] => by simp [itms]
  | k, o :: l, p :: ps => by
    rw [itms]
    exact List.pairwise_cons.2 ⟨fun r hr => by have := (itms_mem (k + 1) l ps r hr).1; simp only; omega, itms_sorted (k + 1) l ps⟩
theorem itms_all : ∀ (k : Nat) (l : List Oper) (ps : List (Option (Value → World → Prop))) (i : Nat), ps.length ≤ l.length → k ≤ i → i < k + ps.length → ∃ r ∈ itms k l ps, r.id = i
  | k, l, [], i, _, h1, h2 => by simp at h2; omega
  | k, [], p :: ps, i, h, _, _ => by simp at h
  | k, o :: l, p :: ps, i, h, h1, h2 => by
    by_cases e : i = k
    · exact ⟨⟨k, o, p⟩, by simp [itms], e.symm⟩
    · obtain ⟨r, hr, hri⟩ := itms_all (k + 1) l ps i (by simpa using h) (by omega) (by simp at h2; omega)
      exact ⟨r, by rw [itms]; exact List.mem_cons_of_mem _ hr, hri⟩
theorem itms_len : ∀ (k : Nat) (l : List Oper) (ps : List (Option (Value → World → Prop))), ps.length ≤ l.length → (itms k l ps).length = ps.length
  | k, l, [], _ => by cases l <;> simp [itms]
  | k, [], p :: ps, h => by simp at h
  | k, o :: l, p :: ps, h => by
    rw [itms, List.length_cons, itms_len (k + 1) l ps (by simpa using h)]; rfl

theorem wp_region_itms {id : Nat} {Q : Exit → Act → World → Prop} {a : Act} {w : World} {l : List Oper} (ps : List (Option (Value → World → Prop))) (hm : P.follows .mixedOrders = true) (hS : shapeB .any l.toArray ps.length = true)
    (hseq : Region.seqB .any l.toArray (l.drop ps.length).length ps.length (headDone l.toArray.size ps.length) = true) (hB : ((l.take ps.length).all fun o => o.guard.isNone) = true) (hps : ∀ p ∈ ps, ∀ r, p = some r → ∀ v, StaysI (r v))
    (h : Mq P w (fun K a' => ∀ w', Below w.heap.size w w' → K w' → wpList P l.toArray Q (l.drop ps.length) a' w') (itms 0 l ps) (fun _ => True) a) : (Code.region id l.toArray true).wp P Q a w := by
  have S := shape_of hS
  have hle : ps.length ≤ l.length := by simpa using S.le
  refine wp_region_any hm ?_
  have H := itms_any (P := P) (W := w) (md := .any) (Q' := Q) (l.drop ps.length) S (fun j => by simp [List.getElem?_drop]) hseq
    _ (Array.replicate l.toArray.size false) a { w with drawn := w.drawn + 1 } (fun _ => True) (itms 0 l ps) rfl
    ⟨by simp, fun j oj _ hl => (by rw [getD_replicate_false] at hl; cases hl), fun t _ ht => getD_in (by simpa using ht) (getD_replicate_false _ _)⟩
    { size := by simp
      all := fun i hi _ => itms_all 0 l ps i hle (Nat.zero_le _) (by rw [Nat.zero_add]; exact hi)
      m := fun r hr => by
        obtain ⟨p1, p2, p3, p4⟩ := itms_mem 0 l ps r hr
        rw [Nat.sub_zero] at p3
        refine ⟨by omega, getD_in (by simp; omega) (getD_replicate_false _ _), by simpa using p3, ?_⟩
        have hmem : r.op ∈ l.take ps.length := List.mem_of_getElem? (i := r.id) (by rw [List.getElem?_take, if_pos (by omega)]; exact p3)
        have := List.all_eq_true.1 hB r.op hmem
        simpa using this
      sm := itms_sorted _ _ _
      tail := fun t _ ht => getD_in (by simpa using ht) (getD_replicate_false _ _)
      below := ⟨rfl, rfl, rfl, Nat.le_refl _, fun _ _ => rfl⟩ }
    (fun _ _ _ _ => trivial) trivial (fun r hr p hp v => hps _ (itms_mem 0 l ps r hr).2.2.2 p hp v) h
  have hcount : (itms 0 l ps).length + (l.drop ps.length).length = l.toArray.size := by
    rw [itms_len 0 l ps hle]; simp; omega
  rw [hcount] at H
  exact H

end

end Go.Proofs.Ytajoipmchgabfaa

/- 'api.Image{W: m.W, H: m.H, Pix: append([]uint32(nil), m.Pix...)}' into a box of its own, in a region that draws its order: what the two makers make. -/
namespace Go.Proofs.Ytajoipmchgabfaa
open Go.RowKit

/-- A new row of so many numbers, of base B. -/
def postA (B n : Nat) (xs : List Value) (v : Value) (w : World) : Prop := (∃ p c, v = .slice p n c) ∧ w.ownsRow B 35 1 v n xs
theorem postA_stays (B n : Nat) (xs : List Value) (v : Value) : StaysI (postA B n xs v) := fun _ _ ⟨h1, h2⟩ hb => ⟨h1, (Turns.of_below' (T := fun _ => False) hb).owns h2 (fun _ _ h => h)⟩
theorem postA_new {W m : World} {o : Oper} {a : Act} {s : Operand} {p : Option Addr} {n c : Nat} {xs : List Value} (ho : o.op = .call { callee := .builtin .append, args := #[.const (.slice none 0 0), s], argTypes := #[22, 22] }) (hs : a.eval s = .slice p n c)
    (hl : xs.length = n) (h1 : ∀ u ∈ xs, u.oneCell' = true) (hn : n ≤ 1048576) (hsrc : (p = none ∧ n = 0 ∧ c = 0) ∨ ∃ ad, p = some ad ∧ ∀ j u, xs[j]? = some u → m.cell? (ad.add j) = some u) (hWm : W.heap.size ≤ m.heap.size) :
    newOut m (postA W.heap.size n xs) ((execOp a.eval o).run Try.prog m) := by
  have hinfo : (Try.prog.info? 35).map (fun i => (i.zero, i.size, i.bytes)) = some (some (.int .u32 0), 1, 4) := by kernel_rfl
  obtain ⟨i, hi, hz, hsz, hb⟩ := info_parts hinfo
  obtain ⟨v', w', hr, r2, r3, r4⟩ := run_append_mine (P := Try.prog) m W.heap.size 22 o.type 35 i (.int .u32 0) 1 4 Try.underlying22 hi hz hsz hb rfl (by decide) (.slice none 0 0) 0 [] (World.ownsRow_nil _ _ _ _) p n c xs (by omega) hsrc h1 (by simp only [maxLen]; omega) (by omega) hWm
  have hs0 : a.eval (.const (.slice none 0 0)) = .slice none 0 0 := rfl
  unfold execOp
  simp only [ho, resolve, invoke, builtin, Sem.run_bind, Sem.run_pure, Result.andThen_ok, List.map_toArray, List.map_cons, List.map_nil, hs0, hs, hr]
  refine ⟨(Turns.of_grown (T := fun _ => False) r3 (fun i e => by cases e)).below (Nat.le_refl _) (fun i h => h.elim), ?_, ?_⟩
  · rw [Nat.zero_add] at r2
    exact owns_slice r2
  · simpa using r2

/-- A new box of a picture. -/
def postB (B : Nat) (v : Value) (w : World) : Prop := ∃ b, v = .pointer (some ⟨b, 0, none⟩) ∧ B ≤ b ∧ w.heap[b]? = some (.cells #[.int .i64 0, .int .i64 0, .slice none 0 0] 24)
theorem postB_stays (B : Nat) (v : Value) : StaysI (postB B v) := fun _ _ ⟨b, h1, h0, h2⟩ hb => ⟨b, h1, h0, (hb.block b ((Array.getElem?_eq_some_iff.1 h2).1)).trans h2⟩
theorem postB_new {B : Nat} (w : World) (h : B ≤ w.heap.size) : newOut w (postB B) (.ok (.value (.pointer (some ⟨w.heap.size, 0, none⟩))) (w.alloc (.cells #[.int .i64 0, .int .i64 0, .slice none 0 0] 24))) := ⟨Below.al1 _ _, _, rfl, h, World.alloc_heap_new _ _⟩
theorem Mq_new1 {P : Program} {W : World} {F : (World → Prop) → Act → Prop} {k : Nat} {o : Oper} {p : Value → World → Prop} {rest : List Itm} {Kn : World → Prop} {a : Act} (h1 : ∀ m : After W, newOut m.world p ((execOp a.eval o).run P m.world)) (h2 : ∀ v, (∃ w, p v w) → Mq P W F rest (fun w => Kn w ∧ p v w) (a.put o.dst v)) : Mq P W F (⟨k, o, some p⟩ :: rest) Kn a := ⟨h1, h2⟩
theorem Mq_look1 {P : Program} {W : World} {F : (World → Prop) → Act → Prop} {k : Nat} {o : Oper} {rest : List Itm} {Kn : World → Prop} {a : Act} (v : Value) (h1 : ∀ m : After W, (execOp a.eval o).run P m.world = .ok (.value v) m.world) (h2 : Mq P W F rest Kn (a.put o.dst v)) : Mq P W F (⟨k, o, none⟩ :: rest) Kn a := ⟨v, h1, h2⟩
theorem Mq_nil1 {P : Program} {W : World} {F : (World → Prop) → Act → Prop} {Kn : World → Prop} {a : Act} (h : F Kn a) : Mq P W F [] Kn a := h

/-- The row and the box are apart. -/
theorem post_apart {w : World} {B n b g : Nat} {xs : List Value} {v : Value} (h1 : w.ownsRow B 35 1 v n xs) (h2 : w.heap[b]? = some (.cells #[.int .i64 0, .int .i64 0, .slice none 0 0] 24)) (hg : v.ownBlock = some g) : g ≠ b := by
  rintro rfl
  rcases h1.2 with ⟨rfl, -⟩ | ⟨g', cap, cur, rfl, -, hh, -⟩
  · cases hg
  · cases hg
    rw [h2] at hh
    injection hh with hh
    injection hh with _ ht _
    exact absurd ht (by decide)

end Go.Proofs.Ytajoipmchgabfaa
