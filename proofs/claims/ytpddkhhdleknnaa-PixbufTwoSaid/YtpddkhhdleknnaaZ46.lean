/- Several texts in one, each with its own head. -/
import Derived.Test.YtpddkhhdleknnaaZ45
import Derived.Test.YtpddkhhdleknnaaZ13
/- Makers, of whose answers those that are pointers point to blocks of their own. Nothing here speaks of one program. -/
namespace Go.Proofs.Ytpddkhhdleknnaa
open Go.RowKit

/-- The block that a pointer to its start points to. -/
def blkOf : Value → List Nat
  | .pointer (some a) => [a.block]
  | _ => []

section
variable {P : Program} {ops : Array Oper} {W : World} {md : Region.Mode}

/-- Told, and new. -/
def newPost (w : World) (post : Value → World → Prop) (v : Value) (w' : World) : Prop := post v w' ∧ ∀ b ∈ blkOf v, w.heap.size ≤ b ∧ b < w'.heap.size

def Md (P : Program) (W : World) (F : (World → List Nat → Prop) → Act → Prop) : List Maker → (World → List Nat → Prop) → Act → Prop
  | [], Kn, a => F Kn a
  | j :: rest, Kn, a => (∀ m : After W, mkOut P m.world (newPost m.world j.post) ((execOp a.eval j.op).run P m.world)) ∧ ∀ v, Md P W F rest (fun w us => ∃ us', us.Perm (blkOf v ++ us') ∧ Kn w us' ∧ j.post v w) (a.put j.op.dst v)

theorem Md.weak {F : (World → List Nat → Prop) → Act → Prop} (hF : ∀ (K K' : World → List Nat → Prop) a, (∀ w us, K' w us → K w us) → F K a → F K' a) : ∀ (l : List Maker) (K K' : World → List Nat → Prop) (a : Act), (∀ w us, K' w us → K w us) → Md P W F l K a → Md P W F l K' a
  | [], K, K', a, h, hm => hF K K' a h hm
  | _ :: l, _, _, _, h, hm => ⟨hm.1, fun v => Md.weak hF l _ _ _ (fun w _ ⟨us', h1, h2, h3⟩ => ⟨us', h1, h w us' h2, h3⟩) (hm.2 v)⟩

theorem Md.pick {F : (World → List Nat → Prop) → Act → Prop} (hF : ∀ (K K' : World → List Nat → Prop) a, (∀ w us, K' w us → K w us) → F K a → F K' a) (j : Maker) (post : List Maker) (hj : ∀ cs b, j.op.op ≠ .select cs b) : ∀ (pre : List Maker) (Kn : World → List Nat → Prop) (a : Act), (∀ p ∈ pre, p.op.apart ops j.op = true ∧ ∀ cs b, p.op.op ≠ .select cs b) →
    Md P W F (pre ++ j :: post) Kn a → (∀ m : After W, mkOut P m.world (newPost m.world j.post) ((execOp a.eval j.op).run P m.world)) ∧ ∀ v, Md P W F (pre ++ post) (fun w us => ∃ us', us.Perm (blkOf v ++ us') ∧ Kn w us' ∧ j.post v w) (a.put j.op.dst v)
  | [], _, _, _, h => h
  | i :: pre, Kn, a, hap, h => by
    obtain ⟨h1, h2⟩ := h
    obtain ⟨hi, hsi⟩ := hap i (by simp)
    obtain ⟨e1, e2, e3⟩ := Oper.apart_spec hi
    have ih := fun v => Md.pick hF j post hj pre _ _ (fun p hp => hap p (by simp [hp])) (h2 v)
    refine ⟨?_, fun v => ⟨?_, fun vi => ?_⟩⟩
    · have := (ih undef).1
      rwa [execOp_put j.op hj a i.op.dst undef e1] at this
    · rwa [execOp_put i.op hsi a j.op.dst v e3]
    · have := (ih vi).2 v
      rw [Act.put_comm a vi v e2] at this
      refine Md.weak hF _ _ _ _ (fun w us hw => ?_) this
      obtain ⟨us1, p1, ⟨us2, p2, k2, q2⟩, q1⟩ := hw
      refine ⟨blkOf vi ++ us2, ?_, ⟨us2, List.Perm.refl _, k2, q1⟩, q2⟩
      refine p1.trans ((p2.append_left _).trans ?_)
      rw [← List.append_assoc, ← List.append_assoc]
      exact List.perm_append_comm.append_right _

/-- What is known stays known. -/
def StaysD (K : World → List Nat → Prop) : Prop := ∀ w w' us, K w us → Below w.heap.size w w' → K w' us

/-- WHATEVER ORDER IS DRAWN. -/
theorem makersD_any {Q' : Exit → Act → World → Prop} {N : Nat} (tl : List Oper) (S : Shape md ops N) (htl : ∀ j, tl[j]? = ops[N + j]?) (hseq : Region.seqB md ops tl.length N (headDone ops.size N) = true)
    (free : ∀ (i j : Nat) (oi oj : Oper), i < N → j < N → i ≠ j → ops[i]? = some oi → ops[j]? = some oj → Region.waitsFor md ops j i = true ∨ Region.waitsFor md ops i j = true ∨ oi.apart ops oj = true) :
    ∀ (f : Nat) (listed : Array Bool) (a : Act) (w : World) (us : List Nat) (Kn : World → List Nat → Prop) (pq : List (Nat × Oper)) (pm : List Maker), pq.length + pm.length = f → HeadInv md ops N listed → StandM ops N W listed w pq pm → StaysD Kn → Kn w us → us.Nodup → (∀ b ∈ us, b < w.heap.size) → (∀ j ∈ pm, ∀ v, Stays (j.post v)) →
      (∀ p ∈ pq, ∀ r ∈ pm, Region.waitsFor md ops p.1 r.id = false) →
      Lq P ops W (Md P W (fun K a' => ∀ w' us, Below W.heap.size W w' → us.Nodup → K w' us → wpList P ops Q' tl a' w') pm Kn) (pq.map Prod.snd) a → wpAny P md ops Q' (f + tl.length) listed a w := by
  intro f
  induction f with
  | zero =>
    intro listed a w us Kn pq pm hf inv st hst hkn hnd hlt hps hqm hL
    have e1 : pq = [] := List.length_eq_zero_iff.1 (by omega)
    have e2 : pm = [] := List.length_eq_zero_iff.1 (by omega)
    subst e1 e2
    rw [Nat.zero_add, st.done S]
    exact wpAny_of_seq tl N _ a w htl hseq (hL w us st.below hnd hkn)
  | succ f ih =>
    intro listed a w us Kn pq pm hf inv st hst hkn hnd hlt hps hqm hL
    rw [show f + 1 + tl.length = (f + tl.length) + 1 by omega]
    refine ⟨fun h0 => absurd h0 (st.ready S (by omega)), fun i hi => ?_⟩
    obtain ⟨hil, oi, hoi, hall⟩ := mem_ready.1 hi
    have hpend : ∃ k, k < N ∧ listed.getD k true = false := by
      cases pq with
      | cons p _ => exact ⟨p.1, (st.q p (by simp)).1, (st.q p (by simp)).2.1⟩
      | nil =>
        cases pm with
        | cons p _ => exact ⟨p.id, (st.m p (by simp)).1, (st.m p (by simp)).2.1⟩
        | nil => simp at hf
    have hiN : i < N := by
      rcases Nat.lt_or_ge i N with h | h
      · exact h
      · obtain ⟨k, hk1, hk2⟩ := hpend
        exact absurd hi (tail_waits S.sink S.chain S.lt inv _ k rfl hk1 hk2 i h)
    have hF : ∀ (K K' : World → List Nat → Prop) (a : Act), (∀ w us, K' w us → K w us) → (∀ w' us, Below W.heap.size W w' → us.Nodup → K w' us → wpList P ops Q' tl a w') → (∀ w' us, Below W.heap.size W w' → us.Nodup → K' w' us → wpList P ops Q' tl a w') := fun K K' a hk h w' us hb hn hw => h w' us hb hn (hk w' us hw)
    unfold wpOp
    simp only [hoi]
    rcases st.all i hiN hil with ⟨p, hp, rfl⟩ | ⟨p, hp, rfl⟩
    · obtain ⟨pre, post, rfl⟩ := split_at hp
      obtain ⟨_, _, hpo⟩ := st.q p hp
      have heq : oi = p.2 := Option.some.inj (hoi.symm.trans hpo)
      subst heq
      have m1 := (pair_mid st.sq).1
      have hL' := hL
      rw [List.map_append, List.map_cons] at hL'
      obtain ⟨v, hy, hR⟩ := Lq.pick p.2 (post.map Prod.snd) (fun cs b => S.sel p.1 p.2 cs b hoi) (pre.map Prod.snd) a (fun o ho => by
        obtain ⟨r, hr, rfl⟩ := List.mem_map.1 ho
        obtain ⟨_, r2, r3⟩ := st.q r (by simp [hr])
        refine ⟨?_, fun cs b => S.sel r.1 r.2 cs b r3⟩
        rcases S.pair r.1 p.1 r.2 p.2 (m1 r hr) hiN r3 hoi with h | h
        · rw [not_waits hi r2] at h; cases h
        · exact h) hL'
      rw [← List.map_append] at hR
      have hlen : (pre ++ post).length + pm.length = f := by simp at hf ⊢; omega
      have hnext : ∀ w'', Below w.heap.size w w'' → wpAny P md ops Q' (f + tl.length) (listed.setIfInBounds p.1 true) (a.put p.2.dst v) w'' := fun w'' hb =>
        ih _ _ _ us Kn _ _ hlen (inv.set hi hiN) (st.quiet S.le hb) hst (hst _ _ _ hkn hb) hnd (fun b hb' => Nat.lt_of_lt_of_le (hlt b hb') hb.size) hps (fun x hx r hr => hqm x (mid_mem hx) r hr) hR
      rcases hy with ⟨hw, hm⟩ | ⟨hw, rfl⟩
      · rw [if_pos hw]
        refine Or.inl ?_
        have h3 := hm ⟨w, st.below⟩
        unfold Oper.wp
        simp only at h3
        generalize (execOp a.eval p.2).run P w = res at *
        cases res with
        | ok nx w' =>
          cases nx <;> simp only [mkUpon] at h3 <;> simp only [Oper.upon]
          case value u =>
            obtain ⟨e1, e2⟩ := h3
            rw [e1, e2]
            exact hnext _ (Below.refl _ _)
          case skip =>
            obtain ⟨e1, e2⟩ := h3
            rw [e1, ← e2]
            exact hnext _ (Below.refl _ _)
          case enter g args =>
            obtain ⟨e1, hc⟩ := h3
            rw [e1]
            exact Calls.mono hc fun e w'' ⟨he, hb⟩ => by subst he; exact hnext _ hb
        | halt x w' => simp only [mkUpon] at h3
      · rw [if_neg (by rw [hw]; exact Bool.false_ne_true)]
        exact hnext _ (Below.refl _ _)
    · obtain ⟨pre, post, rfl⟩ := split_at hp
      obtain ⟨_, _, hpo, hpg⟩ := st.m p hp
      have heq : oi = p.op := Option.some.inj (hoi.symm.trans hpo)
      subst heq
      have hsm := st.sm
      rw [List.pairwise_append] at hsm
      have hapq : ∀ o ∈ pq.map Prod.snd, o.apart ops p.op = true ∧ ∀ cs b, o.op ≠ .select cs b := fun o ho => by
        obtain ⟨r, hr, rfl⟩ := List.mem_map.1 ho
        obtain ⟨r1, r2, r3⟩ := st.q r hr
        refine ⟨?_, fun cs b => S.sel r.1 r.2 cs b r3⟩
        rcases free r.1 p.id r.2 p.op r1 hiN (st.qm r hr p hp) r3 hoi with h | h | h
        · rw [not_waits hi r2] at h; cases h
        · rw [hqm r hr p hp] at h; cases h
        · exact h
      have hapm : ∀ r ∈ pre, r.op.apart ops p.op = true ∧ ∀ cs b, r.op.op ≠ .select cs b := fun r hr => by
        obtain ⟨r1, r2, r3, -⟩ := st.m r (by simp [hr])
        refine ⟨?_, fun cs b => S.sel r.id r.op cs b r3⟩
        rcases S.pair r.id p.id r.op p.op (hsm.2.2 r hr p (by simp)) hiN r3 hoi with h | h
        · rw [not_waits hi r2] at h; cases h
        · exact h
      have hsel : ∀ cs b, p.op.op ≠ .select cs b := fun cs b => S.sel p.id p.op cs b hoi
      have hL2 := Lq.mono (fun a' h => Md.pick (ops := ops) hF p post hsel pre Kn a' hapm h) _ _ hL
      have hmk := Lq.back (C := fun s => ∀ m : After W, mkOut P m.world (newPost m.world p.post) (s.run P m.world)) p.op hsel (pq.map Prod.snd) a (fun o ho => (hapq o ho).1) (Lq.mono (fun _ h => h.1) _ _ hL2) ⟨w, st.below⟩
      have hlen : pq.length + (pre ++ post).length = f := by simp at hf ⊢; omega
      have fin : ∀ v w'', Below w.heap.size w w'' → newPost w p.post v w'' → wpAny P md ops Q' (f + tl.length) (listed.setIfInBounds p.id true) (a.put p.op.dst v) w'' := fun v w'' hb hpv => by
        refine ih _ _ _ (blkOf v ++ us) (fun w us => ∃ us', us.Perm (blkOf v ++ us') ∧ Kn w us' ∧ p.post v w) _ _ hlen (inv.set hi hiN) (st.made S.le hb) ?_ ⟨us, List.Perm.refl _, hst _ _ _ hkn hb, hpv.1⟩ ?_ ?_ (fun x hx v' => hps x (mid_mem hx) v') (fun x hx r hr => hqm x hx r (mid_mem hr))
          (Lq.put p.op v (fun a' h => h.2 v) (pq.map Prod.snd) a hapq hL2)
        · rintro w1 w2 vs ⟨vs', h1, h2, h3⟩ hb2
          exact ⟨vs', h1, hst _ _ _ h2 hb2, hps p hp v _ _ h3 hb2⟩
        · refine List.nodup_append.2 ⟨?_, hnd, ?_⟩
          · unfold blkOf
            split <;> simp
          · intro b hb1 c hc e
            have := (hpv.2 b hb1).1
            have := hlt c hc
            omega
        · intro b hb1
          rcases List.mem_append.1 hb1 with h | h
          · exact (hpv.2 b h).2
          · exact Nat.lt_of_lt_of_le (hlt b h) hb.size
      rw [if_pos (by simp [Region.wanted, hpg])]
      refine Or.inl ?_
      unfold Oper.wp
      simp only at hmk
      generalize (execOp a.eval p.op).run P w = res at *
      cases res with
      | ok nx w' =>
        cases nx <;> simp only [mkOut] at hmk <;> simp only [Oper.upon]
        case value u => exact fin u w' hmk.1 hmk.2
        case enter g args =>
          obtain ⟨rfl, hc⟩ := hmk
          exact Calls.mono hc fun e w'' ⟨v, he, hb, hpv⟩ => by subst he; exact fin v w'' hb hpv
      | halt x w' => simp only [mkOut] at hmk

end

section
variable {P : Program}

theorem wp_region_makersD {id : Nat} {Q : Exit → Act → World → Prop} {a : Act} {w : World} {l : List Oper} (bs : List Bool) (ps : List (Value → World → Prop)) (hm : P.follows .mixedOrders = true) (hS : shapeB .any l.toArray bs.length = true)
    (hseq : Region.seqB .any l.toArray (l.drop bs.length).length bs.length (headDone l.toArray.size bs.length) = true) (hB : makeB .any l.toArray bs = true) (hc : decide ((bs.filter (!·)).length ≤ ps.length) = true) (hps : ∀ p ∈ ps, ∀ v, Stays (p v))
    (h : Lq P l.toArray w (Md P w (fun K a' => ∀ w' us, Below w.heap.size w w' → us.Nodup → K w' us → wpList P l.toArray Q (l.drop bs.length) a' w') (pickM 0 l bs ps) (fun _ us => us = [])) (pickQ l bs) a) : (Code.region id l.toArray true).wp P Q a w := by
  have S := shape_of hS
  have hle : bs.length ≤ l.length := by simpa using S.le
  simp only [makeB, Bool.and_eq_true] at hB
  obtain ⟨hB1, hB2, hB3⟩ := hB
  refine wp_region_any hm ?_
  have hall := fun i hi => pick_all 0 l bs ps i hle (by simpa using hc) (Nat.zero_le _) (by rw [Nat.zero_add]; exact hi)
  have H := makersD_any (P := P) (W := w) (md := .any) (Q' := Q) (l.drop bs.length) S (fun j => by simp [List.getElem?_drop]) hseq
    (fun i j oi oj hi hj hij hoi hoj => by
      have := List.all_eq_true.1 (List.all_eq_true.1 hB1 i (List.mem_range.2 hi)) j (List.mem_range.2 hj)
      rw [hoi, hoj] at this
      simp only [Bool.or_eq_true, beq_iff_eq] at this
      rcases this with ((h | h) | h) | h
      · exact absurd h hij
      · exact .inl h
      · exact .inr (.inl h)
      · exact .inr (.inr h))
    _ (Array.replicate l.toArray.size false) a { w with drawn := w.drawn + 1 } [] (fun _ us => us = []) (pickP 0 l bs) (pickM 0 l bs ps) rfl
    ⟨by simp, fun j oj _ hl => (by rw [getD_replicate_false] at hl; cases hl), fun t _ ht => getD_in (by simpa using ht) (getD_replicate_false _ _)⟩
    { size := by simp
      all := fun i hi _ => hall i hi
      q := fun p hp => by
        obtain ⟨p1, p2, p3, p4⟩ := pickP_mem 0 l bs p hp
        refine ⟨by omega, getD_in (by simp; omega) (getD_replicate_false _ _), by simpa using p3⟩
      m := fun r hr => by
        obtain ⟨p1, p2, p3, p4, p5⟩ := pickM_mem 0 l bs ps r hr
        refine ⟨by omega, getD_in (by simp; omega) (getD_replicate_false _ _), by simpa using p3, ?_⟩
        have := List.all_eq_true.1 hB3 r.id (List.mem_range.2 (by omega))
        rw [Nat.sub_zero] at p3 p4
        rw [p4] at this
        have e : l.toArray[r.id]? = some r.op := by simpa using p3
        rw [e] at this
        simpa using this
      qm := fun p hp r hr e => by
        have h1 := (pickP_mem 0 l bs p hp).2.2.2
        have h2 := (pickM_mem 0 l bs ps r hr).2.2.2.1
        rw [e] at h1
        rw [h1] at h2
        cases h2
      sq := pickP_sorted _ _ _
      sm := pickM_sorted _ _ _ _
      tail := fun t _ ht => getD_in (by simpa using ht) (getD_replicate_false _ _)
      below := ⟨rfl, rfl, rfl, Nat.le_refl _, fun _ _ => rfl⟩ }
    (fun _ _ _ h _ => h) rfl List.nodup_nil (fun b hb => by cases hb) (fun r hr v => hps _ (pickM_mem 0 l bs ps r hr).2.2.2.2 v)
    (fun p hp r hr => by
      obtain ⟨-, p2, -, p4⟩ := pickP_mem 0 l bs p hp
      obtain ⟨-, r2, -, r4, -⟩ := pickM_mem 0 l bs ps r hr
      have := List.all_eq_true.1 (List.all_eq_true.1 hB2 p.1 (List.mem_range.2 (by omega))) r.id (List.mem_range.2 (by omega))
      rw [Nat.sub_zero] at p4 r4
      rw [p4, r4] at this
      simpa using this)
    (by rw [pickP_snd]; exact h)
  have hcount : (pickP 0 l bs).length + (pickM 0 l bs ps).length + (l.drop bs.length).length = l.toArray.size := by
    rw [pick_len 0 l bs ps hle (by simpa using hc)]; simp; omega
  rw [hcount] at H
  exact H

end

end Go.Proofs.Ytpddkhhdleknnaa

/- The statements' closed picture of layer 3: it answers true, and keeps all that there is. -/
namespace Go.Proofs.Ytpddkhhdleknnaa
open Go.RowKit

set_option maxRecDepth 100000 in
set_option maxHeartbeats 4000000 in
theorem wakes3_any (w : World) : Makes Try.prog 27 #[] w (.bool true) := by
  unfold Makes
  go_enter Try.func27, Try.ntmps27
  go_wp2_with fail
  have hP1 : Pix (w.alloc (.cells #[.int .u32 1, .int .u32 2, .int .u32 3, .int .u32 4, .int .u32 5, .int .u32 6] 49)) w.heap.size [1, 2, 3, 4, 5, 6] := Array.getElem?_push_size
  have hbw := Below.al1 w (.cells #[.int .u32 1, .int .u32 2, .int .u32 3, .int .u32 4, .int .u32 5, .int .u32 6] 49)
  generalize (w.alloc (.cells #[.int .u32 1, .int .u32 2, .int .u32 3, .int .u32 4, .int .u32 5, .int .u32 6] 49)) = W1 at *
  have hf := from_yes 3 2 w.heap.size 0 6 6 [1, 2, 3, 4, 5, 6] W1 hP1.row rfl (by decide) (by decide) (by intro v hv; simp at hv; omega) (by decide) (by decide) (by decide)
  rw [show cutL 3 0 0 3 2 [1, 2, 3, 4, 5, 6] = [1, 2, 3, 4, 5, 6] by decide] at hf
  refine Calls.mono hf ?_
  rintro e w2 ⟨B, g, rfl, hB, hBl, hgl, hBg, hb2⟩
  have hbw2 := Below.thn hbw hb2
  have Hf := Lib.hid hbw2
  have hsz := hbw.size
  have HB := Lib.hid hB
  clear hf hP1 hbw hb2 hbw2
  go_wp2_with fail
  have hcp := copy_yes B 3 2 g 1 0 2 2 0 0 1 0 [1, 2, 3, 4, 5, 6] w2 HB.out hBg (by decide) (by decide) (by decide) (by decide) (by decide) (by decide) (by kernel_rfl)
  rw [show layL 3 1 0 2 2 0 0 (cutL 3 0 0 2 2 [1, 2, 3, 4, 5, 6]) [1, 2, 3, 4, 5, 6] 2 = [1, 1, 2, 4, 4, 5] by decide] at hcp
  refine Calls.mono hcp ?_
  rintro e w3 ⟨rfl, hB3, ht3⟩
  have hbw3 := Hf.out.trans (ht3.below (B := w.heap.size) (by have := Hf.out.size; omega) (by rintro i rfl; omega))
  have Hf3 := Lib.hid hbw3
  have HB3 := Lib.hid hB3
  clear hcp hB hB3 ht3 hbw3 Hf HB
  go_wp2_with fail
  have hat := at_in B 3 2 g 2 1 [1, 1, 2, 4, 4, 5] w3 HB3.out (by decide) (by decide) (by decide)
  refine Calls.mono hat ?_
  rintro e w4 ⟨rfl, hb4⟩
  have Hf4 := Lib.hid (Hf3.out.trans (hb4.mono Hf3.out.size))
  have HB4 := Lib.hid (HB3.out.later hb4)
  clear hat hb4 Hf3 HB3
  go_wp2_with fail
  refine Calls.mono (image_any B 3 2 g [1, 1, 2, 4, 4, 5] w4 HB4.out) ?_
  rintro e w5 ⟨g5, rfl, hg5, hP5, hb5⟩
  have Hf5 := Lib.hid (Hf4.out.trans (hb5.mono Hf4.out.size))
  have HP5 := Lib.hid hP5
  clear hP5 hb5 hg5
  go_wp2_with fail
  have hP6 : Pix (w5.alloc (.cells #[.int .u32 1, .int .u32 1, .int .u32 2, .int .u32 4, .int .u32 4, .int .u32 5] 49)) w5.heap.size [1, 1, 2, 4, 4, 5] := Array.getElem?_push_size
  have hb6 := Below.al1 w5 (.cells #[.int .u32 1, .int .u32 1, .int .u32 2, .int .u32 4, .int .u32 4, .int .u32 5] 49)
  have hP5 := HP5.out.later hb6
  have Hf6 := Lib.hid (Hf5.out.trans (hb6.mono Hf5.out.size))
  refine Calls.mono (refSame_any 3 2 3 2 _ _ 6 6 [1, 1, 2, 4, 4, 5] [1, 1, 2, 4, 4, 5] _ hP5.row hP6.row (by decide)) ?_
  rw [show (decide ((3 : Int) = 3) && (decide ((2 : Int) = 2) && eqL [1, 1, 2, 4, 4, 5] [1, 1, 2, 4, 4, 5])) = true by decide]
  rintro e w7 ⟨rfl, hb7⟩
  have Hf7 := Lib.hid (Hf6.out.trans (hb7.mono Hf6.out.size))
  clear hb6 hP5 hP6 hb7
  go_wp2
  go_ret
  exact ⟨rfl, Hf7.out⟩

end Go.Proofs.Ytpddkhhdleknnaa
