/- Several texts in one, each with its own head. -/
import Derived.Test.YtpdfkgdgpofhbaaM822
import Derived.Test.YtpdfkgdgpofhbaaM818
import Derived.Test.YtpdfkgdgpofhbaaM813
/- What is taken from a heap rises; rows of trees as the code makes them (plain). -/
namespace Go.Proofs.Ytpdfkgdgpofhbaa
open Go.RowKit

theorem UpR.hp {E R : List (Nat × Nat)} {j : Nat} (h : UpR E j R) : j < E.length → HpUp (kk E) E.length j → Hp (kk R) R.length := by
  induction h with
  | @stop E j h =>
    intro _ hu
    refine hu.done (h.imp id fun h => ?_)
    have h : ¬ kk E j < kk E ((j - 1) / 2) := h
    omega
  | @step E R j h0 h hr ih =>
    intro hj hu
    refine ih (by rw [gs_len]; omega) ?_
    rw [gs_len]
    exact HpUp.step rfl hu h0 hj h
theorem lessr_min {m i : Nat} {E : List (Nat × Nat)} (_h : 2 * i + 1 < m) : ∀ k, 0 < k → k < m → (k - 1) / 2 = i → kk E (lessr m E i) ≤ kk E k := fun k k0 kn hk => by
  have e : ∀ k, gk E k = kk E k := fun _ => rfl
  have hk2 : k = 2 * i + 1 ∨ k = 2 * i + 2 := by omega
  unfold lessr
  rw [e, e]
  split
  · rename_i h1
    rcases hk2 with rfl | rfl
    · omega
    · exact Nat.le_refl _
  · rename_i h1
    rcases hk2 with rfl | rfl
    · exact Nat.le_refl _
    · have : ¬ kk E (2 * i + 2) < kk E (2 * i + 1) := fun h2 => h1 ⟨kn, h2⟩
      omega
theorem DnR.hp {m : Nat} {E R : List (Nat × Nat)} {i : Nat} (h : DnR m E i R) : m ≤ E.length → HpDn (kk E) m i → Hp (kk R) m := by
  induction h with
  | @stop E i h =>
    intro hm hd
    refine hd.done (fun k k0 kn hk => ?_)
    by_cases h2 : 2 * i + 1 < m
    · have h3 := lessr_min (E := E) h2 k k0 kn hk
      have h4 : ¬ kk E (lessr m E i) < kk E i := h.resolve_left (by omega)
      omega
    · omega
  | @step E R i h0 h hr ih =>
    intro hm hd
    have hl := lessr_lt (E := E) h0
    have hpar : (lessr m E i - 1) / 2 = i := by unfold lessr; split <;> omega
    exact ih (by rw [gs_len]; exact hm) (HpDn.step hm hd hpar (by omega) hl.2 (lessr_min h0) h)
theorem PushR.hp {F G : List (Nat × Nat)} {x : Nat × Nat} (h : PushR F x G) (hf : Hp (kk F) F.length) : Hp (kk G) G.length := by
  refine UpR.hp h (by simp) ?_
  have := HpUp.push x hf
  rw [List.length_append]
  exact this
theorem PutR.hp {F l G : List (Nat × Nat)} (h : PutR F l G) : Hp (kk F) F.length → Hp (kk G) G.length := by
  induction h with
  | nil => exact id
  | cons h hr ih => intro hf; exact ih (PushR.hp h hf)
theorem PopR.hp {F G : List (Nat × Nat)} {x : Nat × Nat} (h : PopR F x G) (h0 : 0 < F.length) (hf : Hp (kk F) F.length) : (∀ y ∈ F, x.2 ≤ y.2) ∧ Hp (kk G) G.length := by
  have hl := h.len
  obtain ⟨h1, D, h2, rfl⟩ := h
  obtain ⟨n, hn⟩ : ∃ n, F.length = n + 1 := ⟨F.length - 1, by omega⟩
  rw [show F.length - 1 = n by omega] at h2 hl ⊢
  have hx : F[0]'h0 = x := by rw [List.getElem?_eq_getElem h0] at h1; injection h1
  refine ⟨fun y hy => ?_, ?_⟩
  · obtain ⟨k, hk, rfl⟩ := List.getElem_of_mem hy
    have := hf.least k hk
    rw [kk_at hk, kk_at h0, hx] at this
    exact this
  · have h3 := h2.hp (by rw [gs_len]; omega) (HpDn.pop hn (by rw [← hn]; exact hf))
    rw [hl]
    exact h3.congr (fun k hk => kk_take D n k hk)
theorem TakeR.up {F P E : List (Nat × Nat)} (h : TakeR F P E) : Hp (kk F) F.length → P.Pairwise (fun a b => a.2 ≤ b.2) ∧ ∀ p ∈ P, ∀ e ∈ E, p.2 ≤ e.2 := by
  induction h with
  | nil => intro _; exact ⟨List.Pairwise.nil, fun p hp => by cases hp⟩
  | @cons F G E P x h0 h hr ih =>
    intro hf
    obtain ⟨h1, h2⟩ := h.hp h0 hf
    obtain ⟨i1, i2⟩ := ih h2
    have hm : ∀ y ∈ P ++ E, x.2 ≤ y.2 := fun y hy => h1 y ((h.perm h0).mem_iff.1 (List.mem_cons_of_mem _ (hr.perm.mem_iff.1 hy)))
    refine ⟨List.pairwise_cons.2 ⟨fun y hy => hm y (List.mem_append_left _ hy), i1⟩, fun p hp e he => ?_⟩
    rcases List.mem_cons.1 hp with rfl | hp
    · exact hm e (List.mem_append_right _ he)
    · exact i2 p hp e he
theorem OrdR.up {X P E : List (Nat × Nat)} (h : OrdR X P E) : Up ((P ++ E).map Prod.snd) := by
  obtain ⟨F, h1, h2, h3, -⟩ := h
  obtain ⟨u1, u2⟩ := h2.up (h1.hp (fun k h0 hk => by simp at hk))
  rw [List.map_append]
  unfold Up
  rw [List.pairwise_append]
  refine ⟨List.pairwise_map.2 u1, ?_, fun a ha c hc => ?_⟩
  · match E, h3 with
    | [], _ => exact List.Pairwise.nil
    | [_], _ => simp
    | _ :: _ :: _, h3 => simp at h3
  · obtain ⟨x, hx, rfl⟩ := List.mem_map.1 ha
    obtain ⟨y, hy, rfl⟩ := List.mem_map.1 hc
    exact u2 x hx y hy

instance : Inhabited Tr := ⟨.leaf 0 0⟩
/-- A tree with its cost. -/
def tk2 (t : Tr) : Tr × Nat := (t, t.cost)
/-- Trees in the order in which the code takes them. -/
def OrdT (X Q : List Tr) : Prop := ∃ P E, OrdR (X.map tk2) P E ∧ Q = (P ++ E).map Prod.fst
theorem OrdT.det {X Q Q' : List Tr} (h : OrdT X Q) (k : OrdT X Q') : Q = Q' := by
  obtain ⟨P, E, h1, rfl⟩ := h
  obtain ⟨P', E', k1, rfl⟩ := k
  obtain ⟨rfl, rfl⟩ := h1.det k1
  rfl
/-- The code's rows. -/
def RowD (ls : List Tr) : Nat → List Tr → Prop
  | 0, P => P = []
  | j + 1, P => ∃ Q, RowD ls j Q ∧ OrdT (ls ++ pairT Q) P
theorem RowD.det {ls : List Tr} : ∀ {j : Nat} {P P' : List Tr}, RowD ls j P → RowD ls j P' → P = P'
  | 0, _, _, h, k => h.trans k.symm
  | j + 1, _, _, ⟨Q, hQ, h⟩, ⟨Q', hQ', k⟩ => by
    obtain rfl := RowD.det hQ hQ'
    exact h.det k

end Go.Proofs.Ytpdfkgdgpofhbaa

/- huff's pairs and cheapest over trees, move by move. -/
namespace Go.Proofs.Ytpdfkgdgpofhbaa
open Go.RowKit

theorem OrdT.perm {X Q : List Tr} (h : OrdT X Q) : Q.Perm X := by
  obtain ⟨P, E, h1, rfl⟩ := h
  have := h1.perm.map Prod.fst
  rw [List.map_map] at this
  have e : (Prod.fst ∘ tk2) = id := rfl
  rwa [e, List.map_id] at this
theorem OrdT.up {X Q : List Tr} (h : OrdT X Q) : Up (Q.map Tr.cost) := by
  obtain ⟨P, E, h1, rfl⟩ := h
  have h2 : Up (((P.map (rl (fun _ => (0 : Nat)))) ++ (E.map (rl (fun _ => (0 : Nat))))).map Prod.snd) := (h1.map (f := fun _ => (0 : Nat)) rfl).up
  have e : ((P.map (rl (fun _ : Tr => (0 : Nat)))) ++ (E.map (rl (fun _ => (0 : Nat))))).map Prod.snd = ((P ++ E).map Prod.fst).map Tr.cost := by
    rw [← List.map_append, List.map_map, List.map_map]
    refine List.map_congr_left (fun p hp => ?_)
    obtain ⟨t, -, rfl⟩ := List.mem_map.1 (h1.perm.mem_iff.1 hp)
    rfl
  rwa [e] at h2
theorem RowD.rowT {ls : List Tr} : ∀ {j : Nat} {P : List Tr}, RowD ls j P → RowT ls j P
  | 0, _, h => h
  | _ + 1, _, ⟨Q, hQ, h⟩ => ⟨Q, hQ.rowT, h.up, h.perm⟩

/-- A tree with its block, and its cost. -/
def dk (e : Nat × Tr) : (Nat × Tr) × Nat := (e, e.2.cost)

theorem ord_trees {L : List (Nat × Tr)} {P E : List (Nat × Nat)} (h : OrdR (L.map ckey) P E) : ∃ Q : List (Nat × Tr), Q.Perm L ∧ Q.map ckey = P ++ E ∧ OrdT (L.map Prod.snd) (Q.map Prod.snd) := by
  have e0 : L.map ckey = (L.map dk).map (rl Prod.fst) := by rw [List.map_map]; rfl
  rw [e0] at h
  obtain ⟨P', E', h1, rfl, rfl⟩ := h.lift (f := (Prod.fst : Nat × Tr → Nat)) rfl
  have hm : ∀ p ∈ P' ++ E', p = dk p.1 := fun p hp => by
    obtain ⟨t, -, rfl⟩ := List.mem_map.1 (h1.perm.mem_iff.1 hp)
    rfl
  refine ⟨(P' ++ E').map Prod.fst, ?_, ?_, P'.map (rl Prod.snd), E'.map (rl Prod.snd), ?_, ?_⟩
  · have := h1.perm.map Prod.fst
    rw [List.map_map] at this
    have e : (Prod.fst ∘ dk) = id := rfl
    rwa [e, List.map_id] at this
  · rw [List.map_map, ← List.map_append]
    exact List.map_congr_left (fun p hp => by
      show ckey p.1 = rl Prod.fst p
      rw [hm p hp]
      rfl)
  · have := h1.map (f := (Prod.snd : Nat × Tr → Tr)) rfl
    rw [List.map_map] at this ⊢
    exact this
  · rw [List.map_map, ← List.map_append, List.map_map]
    rfl

set_option maxHeartbeats 1000000 in
theorem pairs_anyD (N : Nat → Prop) (l b : List (Nat × Tr)) (vl vb : Value) (w : World) (hN : ∀ i, w.heap.size ≤ i → N i) (hvl : Row encP 1 w vl (l.map Prod.fst)) (hvb : Row encP 1 w vb (b.map Prod.fst))
    (hl : ∀ e ∈ l ++ b, TrAt w N e.1 e.2 ∧ e.2.cost ≤ 1152921504606846976) (hlen : (l ++ b).length ≤ 65536) :
    Calls Try.prog 44 #[vl, vb] w fun e w' => ∃ (v : Value) (Q rt : List (Nat × Tr)), e = .returned v ∧ OrdT ((l ++ b).map Prod.snd) (Q.map Prod.snd) ∧ rt.map Prod.snd = pairT (Q.map Prod.snd) ∧
      w'.ownsRow w.heap.size 84 1 v rt.length ((rt.map Prod.fst).map ptrV) ∧ (∀ e ∈ rt, TrAt w' N e.1 e.2) ∧ Below w.heap.size w w' := by
  have hmap : (l ++ b).map ckey = l.map ckey ++ b.map ckey := List.map_append
  refine Calls.mono (pairs_det (l.map ckey) (b.map ckey) vl vb w (by rw [map_ckey_fst]; exact hvl) (by rw [map_ckey_fst]; exact hvb) (fun e he => ?_) (by rw [← hmap, List.length_map]; exact hlen)) ?_
  · rw [← hmap] at he
    obtain ⟨q, hq, rfl⟩ := List.mem_map.1 he
    exact ⟨(hl q hq).1.cost, (hl q hq).2⟩
  · rintro e w' ⟨v, P, E, rs, rfl, h1, h2, h3, h5, h6, h7, h8⟩
    rw [← hmap] at h1
    obtain ⟨Q, q1, q2, q3⟩ := ord_trees h1
    obtain ⟨rt, r1, r2, r3⟩ := nodes_trees (N := N) hN q2 h5 h7 (fun e he => (hl e (q1.mem_iff.1 he)).1.below h8)
    refine ⟨v, Q, rt, rfl, q3, r2, ?_, r3, h8⟩
    rw [r1]
    have : rt.length = rs.length := by rw [← r1, List.length_map]
    rw [this]; exact h6

/-- What cheapest answers. -/
def CheapD (N : Nat → Prop) (l : List (Nat × Tr)) (L : Nat) (w : World) (e : Ending) (w' : World) : Prop :=
  ∃ (v : Value) (P : List Tr) (rt : List (Nat × Tr)), e = .returned v ∧ RowD (l.map Prod.snd) L P ∧ rt.map Prod.snd = pairT P ∧ Row encP 1 w' v ((rt.take (l.length - 1)).map Prod.fst) ∧
    (∀ e ∈ rt, TrAt w' N e.1 e.2) ∧ Below w.heap.size w w' ∧ ∀ k, v.ownBlock = some k → w.heap.size ≤ k

/-- What cheapest's loop holds: a row's parcels, bound two by two. -/
structure ChInvD (N : Nat → Prop) (ls : List Tr) (w wr : World) (k : Nat) (v : Value) (P : List Tr) (rt : List (Nat × Tr)) : Prop where
  row : RowD ls k P
  eq : rt.map Prod.snd = pairT P
  own : wr.ownsRow w.heap.size 84 1 v rt.length ((rt.map Prod.fst).map ptrV)
  at' : ∀ e ∈ rt, TrAt wr N e.1 e.2
  below : Below w.heap.size w wr

set_option maxHeartbeats 1000000 in
theorem cheapest_det (N : Nat → Prop) (l : List (Nat × Tr)) (vl : Value) (L : Nat) (w : World) (hN : ∀ i, w.heap.size ≤ i → N i) (hvl : Row encP 1 w vl (l.map Prod.fst)) (hl : ∀ e ∈ l, TrAt w N e.1 e.2 ∧ e.2.cost ≤ 1099511627776) (hlen : l.length ≤ 320) (hL : L ≤ 15)
    (hfin : ∀ P, RowT (l.map Prod.snd) L P → l.length - 1 ≤ (pairT P).length) :
    Calls Try.prog 36 #[vl, .int .i64 (L : Int)] w fun e w' => CheapD N l L w e w' := by
  have Hvl := Lib.hid hvl
  have Hl := Lib.hid hl
  have Hfin := Lib.hid hfin
  have HN := Lib.hid hN
  obtain ⟨pl, cl, rfl, -, -, -⟩ := hvl
  rw [List.length_map] at Hvl ⊢
  clear hl hfin hN
  go_enter Try.func36, Try.ntmps36
  go_wp2
  go_loopw [5, 7] (fun v kv wr => ∃ (k : Nat) (P : List Tr) (rt : List (Nat × Tr)), kv = .int .i64 (k : Int) ∧ k ≤ L ∧ Hid (ChInvD N (l.map Prod.snd) w wr k v P rt)) (fun _ kv _ => L - (intOf kv).toNat)
  case atStart => exact ⟨0, [], [], rfl, Nat.zero_le _, Lib.hid ⟨rfl, by simp [pairT], World.ownsRow_nil _ _ _ _, (fun e he => by cases he), Below.refl _ _⟩⟩
  case round =>
    obtain ⟨k, P, rt, rfl, hk, HI⟩ := hrel
    obtain ⟨pb, cb, rfl⟩ := owns_slice HI.out.own
    by_cases hlt : k < L
    · have d1 : (k : Int) < (L : Int) := by omega
      have hlsl : (l.map Prod.snd).length = l.length := List.length_map _
      have Hpre : Hid ((∀ e ∈ l ++ rt, TrAt wr N e.1 e.2 ∧ e.2.cost ≤ 1152921504606846976) ∧ (l ++ rt).length ≤ 65536) := Lib.hid (by
        refine ⟨fun e he => ?_, ?_⟩
        · rcases List.mem_append.1 he with he | he
          · obtain ⟨h1, h2⟩ := Hl.out e he
            exact ⟨h1.below HI.out.below, by omega⟩
          · refine ⟨HI.out.at' e he, ?_⟩
            have hm : e.2 ∈ pairT P := by rw [← HI.out.eq]; exact List.mem_map_of_mem he
            obtain ⟨x, y, e1, hx, hy⟩ := pairT_node P _ hm
            have hc : ∀ t ∈ l.map Prod.snd, t.cost ≤ 1099511627776 := fun t ht => by
              obtain ⟨q, hq, rfl⟩ := List.mem_map.1 ht
              exact (Hl.out q hq).2
            have h1 := RowT.cost_le hc HI.out.row.rowT x hx
            have h2 := RowT.cost_le hc HI.out.row.rowT y hy
            have h3 : 2 ^ k ≤ 2 ^ 15 := Nat.pow_le_pow_right (by decide) (by omega)
            have h4 : (2 : Nat) ^ 15 = 32768 := rfl
            rw [e1]
            simp only [Tr.cost]
            omega
        · have h1 := RowT.len_le HI.out.row.rowT
          have h2 := congrArg List.length HI.out.eq
          rw [List.length_map, pairT_len] at h2
          rw [List.length_append]
          omega)
      have Hvl2 := Lib.hid (Hvl.out.below HI.out.below)
      have Hvb2 := Lib.hid (own_ptrs HI.out.own (by rw [List.length_map]))
      have HN2 : Hid (∀ i, wr.heap.size ≤ i → N i) := Lib.hid (fun i hi => HN.out i (Nat.le_trans HI.out.below.size hi))
      clear hlsl
      go_wp2_with fail
      refine Calls.mono (pairs_anyD N l rt _ _ wr HN2.out Hvl2.out Hvb2.out Hpre.out.1 Hpre.out.2) ?_
      rintro e w1 ⟨v, Q, rt', rfl, h1, h3, h4, h5, h6⟩
      have HI1 : Hid (ChInvD N (l.map Prod.snd) w w1 (k + 1) v (Q.map Prod.snd) rt') := Lib.hid ⟨⟨P, HI.out.row, by
        have := h1
        rw [List.map_append, HI.out.eq] at this
        exact this⟩, h3, hq_base h4 HI.out.below.size, h5, Below.thn HI.out.below h6⟩
      clear h1 h3 h4 h5 h6
      go_wp2
      go_roundw
      case rel => exact ⟨k + 1, _, rt', by go_num, by omega, HI1⟩
      case measure => simp [intOf]; omega
    · obtain rfl : k = L := by omega
      have hcap : rt.length ≤ cb ∧ l.length - 1 ≤ rt.length := by
        refine ⟨?_, ?_⟩
        · rcases HI.out.own.2 with ⟨h0, h1⟩ | ⟨g, cap, cur, hv, -, -, hn, -⟩
          · omega
          · injection hv with a1 a2 a3
            omega
        · have h2 := congrArg List.length HI.out.eq
          have h3 := Hfin.out P HI.out.row.rowT
          rw [List.length_map] at h2
          omega
      have hrow := own_ptrs HI.out.own (by rw [List.length_map])
      have Hrow := Lib.hid (hrow.take (m := l.length - 1) (by rw [List.length_map]; omega))
      clear hrow
      obtain ⟨h1, h2⟩ := hcap
      go_wp2
      · go_ret
        have e0 : l.length - 1 = 0 := by omega
        have hr := Hrow.out
        rw [e0] at hr
        exact ⟨_, P, rt, rfl, HI.out.row, HI.out.eq, by rw [e0, List.map_take]; exact hr, HI.out.at', HI.out.below, fun k hk => (HI.out.own.lt k (by cases pb <;> exact hk)).1⟩
      · go_ret
        exact ⟨_, P, rt, rfl, HI.out.row, HI.out.eq, by rw [List.map_take]; exact Hrow.out, HI.out.at', HI.out.below, fun k hk => (HI.out.own.lt k (by cases pb <;> exact hk)).1⟩

end Go.Proofs.Ytpdfkgdgpofhbaa
