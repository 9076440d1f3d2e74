/- huff's New: what its closure does. -/
import Derived.Test.YtlbhgackpjfhaaaHufMap
import Derived.StillTailTactics
namespace Go.Proofs.Ytlbhgackpjfhaaa
open Go.RowKit Go.Maps

theorem MapAt.turned {w w' : World} {M n : Nat} {F : Nat × Nat → Option Nat} (h : MapAt w M n F) {T : Nat → Prop} (ht : Turns T w w') (hT : ¬ T M) : MapAt w' M n F := by
  obtain ⟨D, ⟨es, clock, hb, r⟩, hF⟩ := h
  exact ⟨D, ⟨es, clock, (ht.block M (lt_heap hb) hT).trans hb, r⟩, hF⟩

theorem mt_turns {w w' : World} {M : Nat} (h : w.mapTurned w' M) : Turns (fun i => i = M) w w' := Turns.of_grown h.grown (fun i e => by cases e; rfl)

theorem wpList_put_at (w : World) {ops : Array Oper} {rest : List Oper} {o : Oper} {a : Act} {Q : Exit → Act → World → Prop} (hg : o.guard = none) (m x v : Operand) (hop : o.op = Op.mapUpdate 67 m x v)
    (M n s r z : Nat) (F : Nat × Nat → Option Nat) (hm : a.eval m = .map (some M)) (hown : MapAt w M n F) (hn : n < maxLen) (h1 : r < 65536) (h2 : z < 65536) (hs : s ≤ 1000000)
    (hx : a.eval x = .agg #[.int .u16 (r : Int), .int .u16 (z : Int)]) (hv : a.eval v = .int .i64 (s : Int))
    (hK : ∀ w', MapAt w' M (n + 1) (fun k' => if k' = (r, z) then some s else F k') → Turns (fun i => i = M) w w' → wpList Try.prog ops Q rest (a.put o.dst undef) w') : wpList Try.prog ops Q (o :: rest) a w := by
  refine wpList_plain hg fun K' hK' => ?_
  obtain ⟨w', hrun, r1, r2⟩ := hown.put (k := (r, z)) hn h1 h2 hs
  unfold ck at hrun
  unfold Oper.wp
  simp [execOp, hop, hm, hx, hv, hrun, Result.andThen]
  exact hK' _ _ (hK w' r1 (mt_turns r2))

/-- A table as New builds it: the box of t, its two fields, its map. -/
structure TabAt (w : World) (M T X n L : Nat) (F : Nat × Nat → Option Nat) : Prop where
  box : w.heap[X]? = some (.cells #[.pointer (some ⟨T, 0, none⟩)] 27)
  tab : w.heap[T]? = some (.cells #[.map (some M), .int .u16 (L : Int)] 69)
  map : MapAt w M n F

set_option maxRecDepth 20000 in
set_option maxHeartbeats 1000000 in
theorem new1_any (M T X n L r z s : Nat) (F : Nat × Nat → Option Nat) (w : World) (h : TabAt w M T X n L F) (hn : n < maxLen) (hr : r < 65536) (hz : z < 65536) (hs : s ≤ 1000000) (hMT : M ≠ T) (hMX : M ≠ X) (hTX : T ≠ X) (hMw : M < w.heap.size) :
    Calls Try.prog 27 #[.int .i64 (s : Int), .agg #[.int .u16 (r : Int), .int .u16 (z : Int)], .pointer (some ⟨X, 0, none⟩)] w fun e w' => e = .returned (.tuple #[]) ∧ TabAt w' M T X (n + 1) (max L z) (fun k' => if k' = (r, z) then some s else F k') ∧ Turns (fun i => i = M ∨ i = T) w w' := by
  obtain ⟨W, hW⟩ : ∃ W, w.alloc (.cells #[.int .u16 (r : Int), .int .u16 (z : Int)] 62) = W := ⟨_, rfl⟩
  have hbw : Below w.heap.size w W := by rw [← hW]; exact Below.al1 w _
  have hbox : W.heap[X]? = _ := (hbw.block X (lt_heap h.box)).trans h.box
  have htab : W.heap[T]? = _ := (hbw.block T (lt_heap h.tab)).trans h.tab
  have hmap : MapAt W M n F := h.map.turned (T := fun _ => False) (Turns.of_below' hbw) (fun h => h)
  have hBc : W.heap[w.heap.size]? = some (.cells #[.int .u16 (r : Int), .int .u16 (z : Int)] 62) := by rw [← hW]; exact (heap_pushed [.cells #[.int .u16 (r : Int), .int .u16 (z : Int)] 62] w 0 _).2 rfl
  have c0 : W.cell? ⟨X, 0, none⟩ = some (.pointer (some ⟨T, 0, none⟩)) := cell_heap hbox rfl
  have c1 : W.cell? ⟨T, 0, none⟩ = some (.map (some M)) := cell_heap htab rfl
  have c2 : W.cell? ⟨w.heap.size, 0, none⟩ = some (.int .u16 (r : Int)) := cell_heap hBc rfl
  have c3 : W.cell? ⟨w.heap.size, 1, none⟩ = some (.int .u16 (z : Int)) := cell_heap hBc rfl
  have Hmap := Lib.hid hmap
  subst hW
  go_enter Try.func27, Try.ntmps27
  go_wp2_with fail
  generalize w.alloc (.cells #[.int .u16 (r : Int), .int .u16 (z : Int)] 62) = W at *
  refine wp_region_still_tail 6 (by kernel_rfl) (by kernel_rfl) ?_
  simp only [List.take_succ_cons, List.take_zero, List.drop_succ_cons, List.drop_zero]
  have d0 : W.drew.cell? ⟨X, 0, none⟩ = some (.pointer (some ⟨T, 0, none⟩)) := c0
  have d1 : W.drew.cell? ⟨T, 0, none⟩ = some (.map (some M)) := c1
  have d2 : W.drew.cell? ⟨w.heap.size, 0, none⟩ = some (.int .u16 (r : Int)) := c2
  have d3 : W.drew.cell? ⟨w.heap.size, 1, none⟩ = some (.int .u16 (z : Int)) := c3
  have Dmap : Hid (MapAt W.drew M n F) := Lib.hid hmap
  have Hww : Hid (Turns (fun _ => False) w W.drew) := Lib.hid ⟨hbw.os, hbw.tape, hbw.output, hbw.size, fun i hi _ => hbw.block i hi⟩
  have dbox : Hid (W.drew.heap[X]? = some (.cells #[.pointer (some ⟨T, 0, none⟩)] 27)) := Lib.hid hbox
  have dtab : Hid (W.drew.heap[T]? = some (.cells #[.map (some M), .int .u16 (L : Int)] 69)) := Lib.hid htab
  change wpStill _ _ W.drew (fun a' => wpList _ _ _ _ a' W.drew) _ _
  clear hbox htab hmap hBc hbw c0 c1 c2 c3 Hmap h
  generalize W.drew = W1 at *
  repeat still_step
  try refine wpStill_nil ?_
  refine wpList_put_at _ rfl _ _ _ rfl M n s r z F rfl Dmap.out hn hr hz hs rfl rfl ?_
  intro W2 hm2 ht2
  have Hm2 := Lib.hid hm2
  have Hw2 : Hid (Turns (fun i => i = M) w W2) := Lib.hid ((Hww.out.mono (T' := fun i => i = M) (fun i _ h => h.elim)).trans ht2)
  have e0 : Hid (W2.drew.heap[X]? = some (.cells #[.pointer (some ⟨T, 0, none⟩)] 27)) := Lib.hid ((ht2.block X (lt_heap dbox.out) (fun e => hMX e.symm)).trans dbox.out)
  have e1 : Hid (W2.drew.heap[T]? = some (.cells #[.map (some M), .int .u16 (L : Int)] 69)) := Lib.hid ((ht2.block T (lt_heap dtab.out) (fun e => hMT e.symm)).trans dtab.out)
  have c0 : W2.drew.cell? ⟨X, 0, none⟩ = some (.pointer (some ⟨T, 0, none⟩)) := cell_heap e0.out rfl
  have c1 : W2.drew.cell? ⟨T, 1, none⟩ = some (.int .u16 (L : Int)) := cell_heap e1.out rfl
  have c3 : W2.drew.cell? ⟨w.heap.size, 1, none⟩ = some (.int .u16 (z : Int)) := ht2.cell d3 (fun e => by simp at e; omega)
  have f1 : W2.drew.frozen? ⟨T, 1, none⟩ = false := by simp [World.frozen?, e1.out]
  clear hm2 ht2 d0 d1 d2 d3
  go_wp2_with fail
  refine wp_region_still_tail 10 (by kernel_rfl) (by kernel_rfl) ?_
  simp only [List.take_succ_cons, List.take_zero, List.drop_succ_cons, List.drop_zero]
  change wpStill _ _ W2.drew (fun a' => wpList _ _ _ _ a' W2.drew) _ _
  have Hm3 : Hid (MapAt W2.drew M (n + 1) fun k' => if k' = (r, z) then some s else F k') := Lib.hid Hm2.out
  have Hw3 : Hid (Turns (fun i => i = M) w W2.drew) := Lib.hid ⟨Hw2.out.os, Hw2.out.tape, Hw2.out.output, Hw2.out.size, Hw2.out.block⟩
  clear Hm2 Hw2
  generalize W2.drew = W3 at *
  repeat still_step
  try refine wpStill_nil ?_
  have hmx : (if L < z then (z : Int) else (L : Int)) = ((max L z : Nat) : Int) := by split <;> omega
  rw [hmx]
  clear hmx
  go_wp2
  go_end0
  have hset := Turns.set (Turns.refl (fun i => i = T) W3) (p := ⟨T, 1, none⟩) rfl (.int .u16 ((max L z : Nat) : Int))
  exact ⟨rfl, ⟨(hset.block X (lt_heap e0.out) (fun e => hTX e.symm)).trans e0.out, two_set1 _ e1.out, Hm3.out.turned hset hMT⟩,
    (Hw3.out.mono (T' := fun i => i = M ∨ i = T) (fun i _ h => .inl h)).trans (hset.mono (fun i _ h => .inr h))⟩

end Go.Proofs.Ytlbhgackpjfhaaa
