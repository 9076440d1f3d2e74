/- huff's cheapest. -/
import Derived.Test.YtlbhgackpjfhaaaHufG
namespace Go.Proofs.Ytlbhgackpjfhaaa
open Go.RowKit

theorem RowAt.take {α : Type} {enc : α → List Value} {k : Nat} {W : World} {p : Option Addr} {xs : List α} (h : RowAt enc k W p xs) (m : Nat) : RowAt enc k W p (xs.take m) := by
  rcases h with ⟨h1, rfl⟩ | ⟨b, off, rfl, h2, h3⟩
  · exact .inl ⟨h1, by simp⟩
  · refine .inr ⟨b, off, rfl, h2, fun i x hi j u hj => h3 i x ?_ j u hj⟩
    rw [List.getElem?_take] at hi
    split at hi
    · exact hi
    · cases hi
theorem Row.take {α : Type} {enc : α → List Value} {k : Nat} {W : World} {p : Option Addr} {n c : Nat} {xs : List α} (h : Row enc k W (.slice p n c) xs) {m : Nat} (hm : m ≤ xs.length) : Row enc k W (.slice p m c) (xs.take m) := by
  obtain ⟨p', c', e, h1, h2, h3⟩ := h
  cases e
  have hl : (xs.take m).length = m := by rw [List.length_take]; omega
  exact ⟨p, c, by rw [hl], by omega, h2, h3.take m⟩

theorem own_ptrs {W : World} {base : Nat} {v : Value} {n : Nat} {bs : List Nat} (h : W.ownsRow base 84 1 v n (bs.map ptrV)) (hn : n = bs.length) : Row encP 1 W v bs := by
  subst hn
  rw [← flatP] at h
  exact owns_row' encP_len h

/-- What cheapest answers. -/
def Cheap (N : Nat → Prop) (l : List (Nat × Tr)) (L : Nat) (w : World) (e : Ending) (w' : World) : Prop :=
  ∃ (v : Value) (P : List Tr) (rt : List (Nat × Tr)), e = .returned v ∧ RowT (l.map Prod.snd) L P ∧ rt.map Prod.snd = pairT P ∧ Row encP 1 w' v ((rt.take (l.length - 1)).map Prod.fst) ∧
    (∀ e ∈ rt, TrAt w' N e.1 e.2) ∧ Below w.heap.size w w' ∧ ∀ k, v.ownBlock = some k → w.heap.size ≤ k

/-- What cheapest's loop holds: a row's parcels, bound two by two. -/
structure ChInv (N : Nat → Prop) (ls : List Tr) (w wr : World) (k : Nat) (v : Value) (P : List Tr) (rt : List (Nat × Tr)) : Prop where
  row : RowT ls k P
  eq : rt.map Prod.snd = pairT P
  own : wr.ownsRow w.heap.size 84 1 v rt.length ((rt.map Prod.fst).map ptrV)
  at' : ∀ e ∈ rt, TrAt wr N e.1 e.2
  below : Below w.heap.size w wr

set_option maxHeartbeats 1000000 in
theorem cheapest_any (N : Nat → Prop) (l : List (Nat × Tr)) (vl : Value) (L : Nat) (w : World) (hN : ∀ i, w.heap.size ≤ i → N i) (hvl : Row encP 1 w vl (l.map Prod.fst)) (hl : ∀ e ∈ l, TrAt w N e.1 e.2 ∧ e.2.cost ≤ 1099511627776) (hlen : l.length ≤ 320) (hL : L ≤ 15)
    (hfin : ∀ P, RowT (l.map Prod.snd) L P → l.length - 1 ≤ (pairT P).length) :
    Calls Try.prog 36 #[vl, .int .i64 (L : Int)] w fun e w' => Cheap N l L w e w' := by
  have Hvl := Lib.hid hvl
  have Hl := Lib.hid hl
  have Hfin := Lib.hid hfin
  have HN := Lib.hid hN
  obtain ⟨pl, cl, rfl, -, -, -⟩ := hvl
  rw [List.length_map] at Hvl ⊢
  clear hl hfin hN
  go_enter Try.func36, Try.ntmps36
  go_wp2
  go_loopw [5, 7] (fun v kv wr => ∃ (k : Nat) (P : List Tr) (rt : List (Nat × Tr)), kv = .int .i64 (k : Int) ∧ k ≤ L ∧ Hid (ChInv N (l.map Prod.snd) w wr k v P rt)) (fun _ kv _ => L - (intOf kv).toNat)
  case atStart => exact ⟨0, [], [], rfl, Nat.zero_le _, Lib.hid ⟨rfl, by simp [pairT], World.ownsRow_nil _ _ _ _, (fun e he => by cases he), Below.refl _ _⟩⟩
  case round =>
    obtain ⟨k, P, rt, rfl, hk, HI⟩ := hrel
    obtain ⟨pb, cb, rfl⟩ := owns_slice HI.out.own
    by_cases hlt : k < L
    · have d1 : (k : Int) < (L : Int) := by omega
      have hlsl : (l.map Prod.snd).length = l.length := List.length_map _
      have Hpre : Hid ((∀ e ∈ l ++ rt, TrAt wr N e.1 e.2 ∧ e.2.cost ≤ 1152921504606846976) ∧ (l ++ rt).length ≤ 65536) := Lib.hid (by
        refine ⟨fun e he => ?_, ?_⟩
        · rcases List.mem_append.1 he with he | he
          · obtain ⟨h1, h2⟩ := Hl.out e he
            exact ⟨h1.below HI.out.below, by omega⟩
          · refine ⟨HI.out.at' e he, ?_⟩
            have hm : e.2 ∈ pairT P := by rw [← HI.out.eq]; exact List.mem_map_of_mem he
            obtain ⟨x, y, e1, hx, hy⟩ := pairT_node P _ hm
            have hc : ∀ t ∈ l.map Prod.snd, t.cost ≤ 1099511627776 := fun t ht => by
              obtain ⟨q, hq, rfl⟩ := List.mem_map.1 ht
              exact (Hl.out q hq).2
            have h1 := RowT.cost_le hc HI.out.row x hx
            have h2 := RowT.cost_le hc HI.out.row y hy
            have h3 : 2 ^ k ≤ 2 ^ 15 := Nat.pow_le_pow_right (by decide) (by omega)
            have h4 : (2 : Nat) ^ 15 = 32768 := rfl
            rw [e1]
            simp only [Tr.cost]
            omega
        · have h1 := RowT.len_le HI.out.row
          have h2 := congrArg List.length HI.out.eq
          rw [List.length_map, pairT_len] at h2
          rw [List.length_append]
          omega)
      have Hvl2 := Lib.hid (Hvl.out.below HI.out.below)
      have Hvb2 := Lib.hid (own_ptrs HI.out.own (by rw [List.length_map]))
      have HN2 : Hid (∀ i, wr.heap.size ≤ i → N i) := Lib.hid (fun i hi => HN.out i (Nat.le_trans HI.out.below.size hi))
      clear hlsl
      go_wp2_with fail
      refine Calls.mono (pairs_any N l rt _ _ wr HN2.out Hvl2.out Hvb2.out Hpre.out.1 Hpre.out.2) ?_
      rintro e w1 ⟨v, Q, rt', rfl, h1, h2, h3, h4, h5, h6⟩
      have HI1 : Hid (ChInv N (l.map Prod.snd) w w1 (k + 1) v (Q.map Prod.snd) rt') := Lib.hid ⟨⟨P, HI.out.row, h2, by
        have := h1.map Prod.snd
        rw [List.map_append, HI.out.eq] at this
        exact this⟩, h3, hq_base h4 HI.out.below.size, h5, Below.thn HI.out.below h6⟩
      clear h1 h2 h3 h4 h5 h6
      go_wp2
      go_roundw
      case rel => exact ⟨k + 1, _, rt', by go_num, by omega, HI1⟩
      case measure => simp [intOf]; omega
    · obtain rfl : k = L := by omega
      have hcap : rt.length ≤ cb ∧ l.length - 1 ≤ rt.length := by
        refine ⟨?_, ?_⟩
        · rcases HI.out.own.2 with ⟨h0, h1⟩ | ⟨g, cap, cur, hv, -, -, hn, -⟩
          · omega
          · injection hv with a1 a2 a3
            omega
        · have h2 := congrArg List.length HI.out.eq
          have h3 := Hfin.out P HI.out.row
          rw [List.length_map] at h2
          omega
      have hrow := own_ptrs HI.out.own (by rw [List.length_map])
      have Hrow := Lib.hid (hrow.take (m := l.length - 1) (by rw [List.length_map]; omega))
      clear hrow
      obtain ⟨h1, h2⟩ := hcap
      go_wp2
      · go_ret
        have e0 : l.length - 1 = 0 := by omega
        have hr := Hrow.out
        rw [e0] at hr
        exact ⟨_, P, rt, rfl, HI.out.row, HI.out.eq, by rw [e0, List.map_take]; exact hr, HI.out.at', HI.out.below, fun k hk => (HI.out.own.lt k (by cases pb <;> exact hk)).1⟩
      · go_ret
        exact ⟨_, P, rt, rfl, HI.out.row, HI.out.eq, by rw [List.map_take]; exact Hrow.out, HI.out.at', HI.out.below, fun k hk => (HI.out.own.lt k (by cases pb <;> exact hk)).1⟩

end Go.Proofs.Ytlbhgackpjfhaaa
