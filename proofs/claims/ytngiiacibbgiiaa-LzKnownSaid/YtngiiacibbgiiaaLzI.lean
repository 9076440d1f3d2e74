/- lz's tell and Expand. -/
import Derived.Test.YtngiiacibbgiiaaLzH
namespace Go.Proofs.Ytngiiacibbgiiaa
open Go.RowKit

theorem rpt_snoc (d : Nat) : ∀ k o, rpt d (k + 1) o = rpt d k o ++ [(rpt d k o).getD ((rpt d k o).length - d) 0]
  | 0, o => rfl
  | k + 1, o => by rw [rpt, rpt_snoc d k]; rfl
theorem RowAt.tok {W : World} {p : Option Addr} {xs : List Tk} (h : RowAt encT 3 W p xs) {k : Nat} (hk : k < xs.length) : ∃ b off, p = some ⟨b, off, none⟩ ∧ W.cell? ⟨b, off + k * 3, none⟩ = some (.int .u8 (xs[k].b : Int)) ∧ W.cell? ⟨b, off + k * 3 + 1, none⟩ = some (.int .i64 xs[k].n) ∧ W.cell? ⟨b, off + k * 3 + 2, none⟩ = some (.int .i64 xs[k].d) := by
  rcases h with ⟨-, rfl⟩ | ⟨b, off, rfl, -, h⟩
  · simp at hk
  · have := h k xs[k] (List.getElem?_eq_getElem hk)
    exact ⟨b, off, rfl, this 0 _ rfl, this 1 _ rfl, this 2 _ rfl⟩
theorem own_last {w : World} {base : Nat} {v : Value} {o : List Nat} (h : w.ownsRow base 5 1 v o.length (o.map u8v)) {i : Nat} (hi : i < o.length) : ∃ g c, v = .slice (some ⟨g, 0, none⟩) o.length c ∧ w.cell? ⟨g, i, none⟩ = some (.int .u8 (o.getD i 0 : Int)) := by
  obtain ⟨g, c, e, -, -, hc, -⟩ := own_at h (i := i) (u := u8v (o.getD i 0)) (by rw [List.getElem?_map, List.getElem?_eq_getElem hi, List.getD_eq_getElem?_getD, List.getElem?_eq_getElem hi]; rfl)
  exact ⟨g, c, e, hc⟩

set_option maxRecDepth 20000 in
set_option maxHeartbeats 4000000 in
theorem tell_any (t : Tk) (base : Nat) (vb : Value) (o : List Nat) (w : World) (hown : w.ownsRow base 5 1 vb o.length (o.map u8v)) (hok : t.okB = true) (hd : t.d ≤ (o.length : Int)) (hlen : o.length ≤ 524288) (hbase : base ≤ w.heap.size) :
    Calls Try.prog 20 #[vb, tkV t] w fun e w' => ∃ v', e = .returned v' ∧ w'.ownsRow base 5 1 v' (tellT t o).length ((tellT t o).map u8v) ∧ Turns (fun k => vb.ownBlock = some k) w w' ∧ (∀ k, v'.ownBlock = some k → vb.ownBlock = some k ∨ w.heap.size ≤ k) := by
  obtain ⟨b, n, d⟩ := t
  unfold tkV
  simp only at hd ⊢
  have Hown := Lib.hid hown
  obtain ⟨pb, cb, rfl⟩ := owns_slice hown
  obtain ⟨W, hW⟩ : ∃ W, w.alloc (.cells #[.int .u8 (b : Int), .int .i64 n, .int .i64 d] 26) = W := ⟨_, rfl⟩
  have hbW : Below w.heap.size w W := by rw [← hW]; exact Below.al1 w _
  have hT : W.heap[w.heap.size]? = some (.cells #[.int .u8 (b : Int), .int .i64 n, .int .i64 d] 26) := by
    rw [← hW]
    exact (heap_pushed [.cells #[.int .u8 (b : Int), .int .i64 n, .int .i64 d] 26] w 0 _).2 rfl
  have c0 : W.cell? ⟨w.heap.size, 0, none⟩ = some (.int .u8 (b : Int)) := cell_heap hT rfl
  have c1 : W.cell? ⟨w.heap.size, 1, none⟩ = some (.int .i64 n) := cell_heap hT rfl
  have c2 : W.cell? ⟨w.heap.size, 2, none⟩ = some (.int .i64 d) := cell_heap hT rfl
  have HownW := Lib.hid ((Turns.of_below' (T := fun _ => False) hbW).owns hown (fun _ _ h => h))
  have hsW : base ≤ W.heap.size := Nat.le_trans hbase hbW.size
  have HbW := Lib.hid hbW
  have HT := Lib.hid hT
  have Hok := Lib.hid hok
  have hglt := hown.lt
  have Hglt := Lib.hid hglt
  clear hown hbW hT hok hglt
  by_cases h0 : n = 0
  · have e0 : (n == 0) = true := by simp; omega
    have ht : tellT ⟨b, n, d⟩ o = o ++ [b] := by unfold tellT; rw [if_pos h0]
    have Ht := Lib.hid ht
    clear ht
    go_enter Try.func20, Try.ntmps20
    clear h0
    go_upto_region 1 with (fail)
    clear hW
    go_wp2_with (at_builtin; refine wpList_append_one W rfl (.tmp 8) (.tmp 11) 22 rfl base 5 _ 1 u8_info Try.underlying22 rfl (.slice pb o.length cb) o.length (o.map u8v) rfl HownW.out (.int .u8 (b : Int)) _ rfl rfl ?n3 ?n4 hsW ?_)
    case n3 => simp only [maxLen]; omega
    case n4 => omega
    intro g1 cap1 w5 ho1 ht1 hg1
    have Ho1 := Lib.hid (And.intro ho1 (And.intro ht1 hg1))
    clear ho1 ht1 hg1 c0 c1 c2
    go_wp2
    go_ret
    refine ⟨_, rfl, ?_, (Turns.of_below' HbW.out).trans Ho1.out.2.1, fun k hk => ?_⟩
    · rw [Ht.out, List.length_append, List.map_append]
      exact Ho1.out.1
    · cases hk
      rcases Ho1.out.2.2 with h | h
      · exact .inl h
      · exact .inr (Nat.le_trans HbW.out.size h)
  · have hok2 : 3 ≤ n ∧ n ≤ 258 ∧ 1 ≤ d ∧ d ≤ 32768 := by
      have := Hok.out
      simp [Tk.okB, h0] at this
      omega
    obtain ⟨m, rfl⟩ : ∃ m : Nat, n = m := ⟨n.toNat, by omega⟩
    obtain ⟨dd, rfl⟩ : ∃ m : Nat, d = m := ⟨d.toNat, by omega⟩
    have e0 : ((m : Int) == 0) = false := by simp; omega
    have ht : tellT ⟨b, (m : Int), (dd : Int)⟩ o = rpt dd m o := by unfold tellT; rw [if_neg h0]; simp
    have Ht := Lib.hid ht
    clear ht
    go_enter Try.func20, Try.ntmps20
    go_upto_region 1 with (fail)
    clear hW h0
    go_wp2
    go_loopw [0, 15] (fun bv kv wr => ∃ k : Nat, kv = .int .i64 (k : Int) ∧ k ≤ m ∧ Hid (wr.ownsRow base 5 1 bv (rpt dd k o).length ((rpt dd k o).map u8v)) ∧ Hid (Turns (fun b => (Value.slice pb o.length cb).ownBlock = some b) W wr) ∧ Hid (∀ b, bv.ownBlock = some b → (Value.slice pb o.length cb).ownBlock = some b ∨ W.heap.size ≤ b)) (fun _ kv _ => m - (intOf kv).toNat)
    case atStart => exact ⟨0, rfl, Nat.zero_le _, HownW, Lib.hid (Turns.refl _ _), Lib.hid fun b h => .inl h⟩
    case round =>
      obtain ⟨k, rfl, hk, HO, HTu, HBk⟩ := hrel
      by_cases hlt : k < m
      · have d0 : decide ((k : Int) < (m : Int)) = true := by simp; omega
        obtain ⟨q, hq⟩ : ∃ q, (rpt dd k o).length = q := ⟨_, rfl⟩
        have hq2 : q = o.length + k := by rw [← hq]; exact rpt_len _ _ _
        have hqb : q ≤ 600000 := by omega
        have hqd : dd ≤ q := by omega
        clear hq2
        obtain ⟨g, cg, e, hcell⟩ := own_last HO.out (i := q - dd) (by rw [hq]; omega)
        subst e
        obtain ⟨x, hx⟩ : ∃ x, (rpt dd k o).getD (q - dd) 0 = x := ⟨_, rfl⟩
        rw [hx] at hcell
        obtain ⟨r, hr⟩ : ∃ r, q - dd = r := ⟨_, rfl⟩
        have er : (q : Int) - (dd : Int) = (r : Int) := by omega
        have r0 : (0 : Int) ≤ (r : Int) := by omega
        have r1 : (r : Int) < (q : Int) := by omega
        rw [hr] at hcell
        have Hs : Hid (rpt dd (k + 1) o = rpt dd k o ++ [x]) := Lib.hid (by rw [rpt_snoc, hq, hx])
        have HO2 : Hid (wr.ownsRow base 5 1 (.slice (some ⟨g, 0, none⟩) q cg) q ((rpt dd k o).map u8v)) := Lib.hid (by have := HO.out; rw [hq] at this; exact this)
        have HBk2 := Lib.hid (show ∀ b, some g = some b → (Value.slice pb o.length cb).ownBlock = some b ∨ W.heap.size ≤ b from fun b hb => HBk.out b hb)
        have Hq := Lib.hid hq
        have hc2 : wr.cell? ⟨w.heap.size, 2, none⟩ = some (.int .i64 (dd : Int)) := HTu.out.cell c2 (fun e => by have h := (Hglt.out _ e).2; simp only at h; omega)
        have hs1 : base ≤ wr.heap.size := Nat.le_trans hsW HTu.out.size
        rw [hq]
        clear HO hx hr hq HBk
        go_wp2_with (at_builtin; refine wpList_append_one wr rfl (.tmp 17) (.tmp 26) 22 rfl base 5 _ 1 u8_info Try.underlying22 rfl (.slice (some ⟨g, 0, none⟩) q cg) q ((rpt dd k o).map u8v) rfl HO2.out (.int .u8 (x : Int)) _ rfl rfl ?m3 ?m4 hs1 ?_)
        case m3 => simp only [maxLen]; omega
        case m4 => omega
        intro g1 cap1 w5 ho1 ht1 hg1
        have HO5 : Hid (w5.ownsRow base 5 1 (.slice (some ⟨g1, 0, none⟩) (q + 1) cap1) (rpt dd (k + 1) o).length ((rpt dd (k + 1) o).map u8v)) := Lib.hid (by
          rw [Hs.out, List.length_append, List.map_append, Hq.out]
          exact ho1)
        have HT5 : Hid (Turns (fun b => (Value.slice pb o.length cb).ownBlock = some b) W w5) := Lib.hid (HTu.out.trans' ht1 (fun i hi e => by
          rcases HBk2.out i e with h | h
          · exact h
          · omega))
        have HB5 : Hid (∀ b, (Value.slice (some ⟨g1, 0, none⟩) (q + 1) cap1).ownBlock = some b → (Value.slice pb o.length cb).ownBlock = some b ∨ W.heap.size ≤ b) := Lib.hid (fun b hb => by
          cases hb
          rcases hg1 with h | h
          · exact HBk2.out _ h
          · exact .inr (Nat.le_trans HTu.out.size h))
        clear ho1 ht1 hg1 hcell hc2 er r0 r1
        go_wp2
        go_roundw
        case rel => exact ⟨k + 1, by go_num, by omega, HO5, HT5, HB5⟩
        case measure => simp [intOf]; omega
      · obtain rfl : k = m := by omega
        have d0 : decide ((k : Int) < (k : Int)) = false := by simp
        go_wp2
        go_ret
        refine ⟨_, rfl, ?_, (Turns.of_below' HbW.out).trans (HTu.out.mono fun i _ h => h), fun k hk => ?_⟩
        · rw [Ht.out]; exact HO.out
        · rcases HBk.out _ hk with h | h
          · exact .inl h
          · exact .inr (Nat.le_trans HbW.out.size h)

end Go.Proofs.Ytngiiacibbgiiaa
