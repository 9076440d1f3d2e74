/- Several texts in one, each with its own head. -/
import Derived.Test.YtajidlihepjegaaK823
import Derived.Maps.OwnSet
import Derived.Maps.OwnOps
import Derived.DeepKeys4
import Derived.StillTailTactics
/- Maps whose keys are codes: what a store and a look-up do. -/
namespace Go.Proofs.Ytajidlihepjegaa
open Go.RowKit Go.Maps

set_option maxRecDepth 100000

/-- A code as a key. -/
def ck (k : Nat × Nat) : Value := .agg #[.int .u16 (k.1 : Int), .int .u16 (k.2 : Int)]

noncomputable def codeFields : Array Field := match Try.prog.underlying 84 with | some (.struct fs) => fs | _ => #[]

theorem code_under : Try.prog.underlying 84 = some (.struct codeFields) := by kernel_rfl
theorem code_fields : codeFields.toList.map (fun f => (f.type, f.offset)) = [(82, 0), (82, 1)] := by kernel_rfl
theorem code_named : codeFields.all (·.name != "_") = true := by kernel_rfl
theorem code_cells : Try.prog.cellsOf 84 = 2 := by kernel_rfl
theorem u16_cells : Try.prog.cellsOf 82 = 1 := by kernel_rfl
theorem code_keyt : Try.prog.keyType 84 = true := by kernel_rfl
theorem types_pos : Try.prog.types.size = Try.prog.types.size - 1 + 1 := by kernel_rfl

theorem code_laid : laidOutB Try.prog = true := by kernel_rfl
theorem code_row : (84 : TypeId) < Try.prog.types.size := of_decide_eq_true (by kernel_rfl)
theorem code_wide : (match Try.prog.underlying 84 with | some (.array _ _) | some (.struct _) => true | _ => false) = true := by rw [code_under]
theorem code_tiled : Try.prog.keyTypeAt 2 84 = true := by kernel_rfl
theorem code_law : WideMaps.KeyLaw Try.prog 84 := deep_law_laid code_laid (m := 2) (by omega) code_row code_tiled code_wide
theorem code_keyed : Keyed Try.prog 84 := Keyed.of_law code_law

theorem code_formed {c0 c1 : Value} : (Value.agg #[c0, c1]).formed Try.prog 84 = true := by
  simp [Value.formed, code_cells]

theorem wf_u16 {a : Nat} (h : a < 65536) : (Lit.int .u16 (a : Int)).wf = true := by
  have hm : IntKind.u16.min = 0 := by decide
  have hx : IntKind.u16.max = 65535 := by decide
  simp [Lit.wf, hm, hx]; omega

theorem lit_u16 {a : Nat} (h : a < 65536) (d : Nat) : Try.prog.keyLits (d + 1) 82 [.int .u16 (a : Int)] = some [.int .u16 (a : Int)] := by
  have hu : Try.prog.underlying 82 = some (.int .u16) := by kernel_rfl
  unfold Program.keyLits
  rw [hu]
  simp [wf_u16 h]

/-- The key's own words. -/
def kl (k : Nat × Nat) : Lit := .string (keyBytes [.int .u16 (k.1 : Int), .int .u16 (k.2 : Int)])

theorem lits_code {k : Nat × Nat} (h1 : k.1 < 65536) (h2 : k.2 < 65536) (d : Nat) : Try.prog.keyLits (d + 2) 84 [.int .u16 (k.1 : Int), .int .u16 (k.2 : Int)] = some [.int .u16 (k.1 : Int), .int .u16 (k.2 : Int)] := by
  unfold Program.keyLits
  rw [code_under]
  have hm : codeFields.toList.mapM (fun f => Try.prog.keyLits (d + 1) f.type (([Value.int .u16 (k.1 : Int), .int .u16 (k.2 : Int)].drop f.offset).take (Try.prog.cellsOf f.type))) = some [[Lit.int .u16 (k.1 : Int)], [.int .u16 (k.2 : Int)]] := by
    have := List.mapM_map (m := Option) (f := fun f : Field => (f.type, f.offset)) (g := fun p : TypeId × Nat => Try.prog.keyLits (d + 1) p.1 (([Value.int .u16 (k.1 : Int), .int .u16 (k.2 : Int)].drop p.2).take (Try.prog.cellsOf p.1))) (l := codeFields.toList)
    rw [code_fields] at this
    refine this.symm.trans ?_
    simp [u16_cells, lit_u16 h1, lit_u16 h2]
  simp only [List.length_cons, List.length_nil, code_cells, code_named, hm]
  simp

theorem code_key {k : Nat × Nat} (h1 : k.1 < 65536) (h2 : k.2 < 65536) : keyOf Try.prog 84 (ck k) = some (kl k) := by
  unfold keyOf
  rw [code_under]
  simp only [code_keyt, ck, code_formed, Bool.and_self, if_true]
  have hd : Try.prog.types.size + 1 = Try.prog.types.size - 1 + 2 := by have := types_pos; omega
  rw [hd]
  have : (Value.agg #[.int .u16 (k.1 : Int), .int .u16 (k.2 : Int)]).cells.toList = [.int .u16 (k.1 : Int), .int .u16 (k.2 : Int)] := by simp [Value.cells]
  rw [this, lits_code h1 h2]
  rfl

theorem kl_inj {k k' : Nat × Nat} (h1 : k.1 < 65536) (h2 : k.2 < 65536) (h1' : k'.1 < 65536) (h2' : k'.2 < 65536) (h : kl k = kl k') : k = k' := by
  have e := code_keyed.inj (code_key h1 h2) (by rw [h]; exact code_key h1' h2')
  unfold ck at e
  simp only [Value.agg.injEq] at e
  simp at e
  exact Prod.ext (by omega) (by omega)

theorem kl_isKey (k : Nat × Nat) : WideAt.IsKeyLit (kl k) := trivial

/-- The element's reading. -/
noncomputable abbrev relem : Value → Option (DataW Unit × List MemPlace) := plainElem Try.prog 3

/-- Block M is a map of at most n entries that reads as F. -/
def MapAt (w : World) (M n : Nat) (F : Nat × Nat → Option Nat) : Prop :=
  ∃ D : DataW Unit, w.ownsMap Try.prog 84 relem M n D ∧ ∀ k : Nat × Nat, k.1 < 65536 → k.2 < 65536 → Maps.has D (kl k) = (F k).isSome ∧ ∀ x, F k = some x → ∀ z, D.atKey (kl k) z = .lit (.int .i64 (x : Int))

theorem int_under : Try.prog.underlying 3 = some (.int .i64) := by kernel_rfl
theorem map_under : Try.prog.underlying 145 = some (.map 84 3) := by kernel_rfl

theorem wf_small {x : Nat} (h : x ≤ 1000000) : (Lit.int .i64 (x : Int)).wf = true := by
  have hm : IntKind.i64.min = -9223372036854775808 := by decide
  have hx : IntKind.i64.max = 9223372036854775807 := by decide
  simp [Lit.wf, hm, hx]; omega

theorem MapAt.made (w : World) : MapAt (w.alloc (.map #[] 0)) w.heap.size 0 fun _ => none :=
  ⟨_, World.ownsMap_made w _ _ _, fun k _ _ => ⟨rfl, fun x h => by cases h⟩⟩

theorem MapAt.put {w : World} {M n x : Nat} {F : Nat × Nat → Option Nat} {k : Nat × Nat} (h : MapAt w M n F) (hn : n < maxLen) (h1 : k.1 < 65536) (h2 : k.2 < 65536) (hx : x ≤ 1000000) :
    ∃ w', (Instr.mapUpdate 145 (.map (some M)) (ck k) (.int .i64 (x : Int))).run Try.prog w = .ok () w' ∧ MapAt w' M (n + 1) (fun k' => if k' = k then some x else F k') ∧ w.mapTurned w' M := by
  obtain ⟨D, hD, hF⟩ := h
  obtain ⟨w', hr, ho, ht⟩ := hD.store code_keyed map_under hn (code_key h1 h2) (plainElem_int int_under (wf_small hx))
  refine ⟨w', hr, ⟨_, ho, fun k' g1 g2 => ?_⟩, ht⟩
  by_cases e : k' = k
  · subst e
    simp only [if_true, Option.isSome_some, Option.some.injEq]
    exact ⟨Maps.has_put_same hD.isMap (kl_isKey _) _, fun y hy z => by subst hy; exact Maps.atKey_put_same hD.isMap (kl_isKey _) _ z⟩
  · simp only [if_neg e]
    have hne : kl k' ≠ kl k := fun he => e (kl_inj g1 g2 h1 h2 he)
    exact ⟨by rw [Maps.has_put_other hne]; exact (hF k' g1 g2).1, fun y hy z => by rw [Maps.atKey_put_other hne]; exact (hF k' g1 g2).2 y hy z⟩

theorem int_zero (w : World) : (zeroValue 3).run Try.prog w = .ok (.int .i64 0) w := by
  kernel_rfl

theorem MapAt.look {w : World} {M n : Nat} {F : Nat × Nat → Option Nat} {k : Nat × Nat} (h : MapAt w M n F) (h1 : k.1 < 65536) (h2 : k.2 < 65536) :
    (Instr.lookup 145 (.map (some M)) (ck k) true).run Try.prog w = .ok (.tuple #[.int .i64 (((F k).getD 0 : Nat) : Int), .bool (F k).isSome]) w := by
  obtain ⟨D, hD, hF⟩ := h
  obtain ⟨v, ps, hr, hv⟩ := hD.look_ok code_keyed map_under (int_zero w) (plainElem_int int_under (wf_small (x := 0) (by omega))) (code_key h1 h2)
  obtain ⟨a, rfl, hz, -⟩ := plainElem_int_inv int_under hv
  simp only [Prod.mk.injEq] at hz
  rw [hr, (hF k h1 h2).1]
  cases hk : F k with
  | none =>
    rw [Maps.atKey_of_not_has (by rw [(hF k h1 h2).1, hk]; rfl)] at hz
    simp at hz
    simp [← hz.1]
  | some x =>
    rw [(hF k h1 h2).2 x hk] at hz
    simp at hz
    simp [← hz.1]

theorem MapAt.kept {w w' : World} {M n : Nat} {F : Nat × Nat → Option Nat} {row : Option Nat} (h : MapAt w M n F) (hg : w.grownBy w' row) (hne : some M ≠ row) : MapAt w' M n F := by
  obtain ⟨D, hD, hF⟩ := h
  exact ⟨D, hD.kept hg hne, hF⟩

end Go.Proofs.Ytajidlihepjegaa

/- huff's New: what its closure does. -/
namespace Go.Proofs.Ytajidlihepjegaa
open Go.RowKit Go.Maps

theorem MapAt.turned {w w' : World} {M n : Nat} {F : Nat × Nat → Option Nat} (h : MapAt w M n F) {T : Nat → Prop} (ht : Turns T w w') (hT : ¬ T M) : MapAt w' M n F := by
  obtain ⟨D, ⟨es, clock, hb, r⟩, hF⟩ := h
  exact ⟨D, ⟨es, clock, (ht.block M (lt_heap hb) hT).trans hb, r⟩, hF⟩

theorem mt_turns {w w' : World} {M : Nat} (h : w.mapTurned w' M) : Turns (fun i => i = M) w w' := Turns.of_grown h.grown (fun i e => by cases e; rfl)

theorem wpList_put_at (w : World) {ops : Array Oper} {rest : List Oper} {o : Oper} {a : Act} {Q : Exit → Act → World → Prop} (hg : o.guard = none) (m x v : Operand) (hop : o.op = Op.mapUpdate 145 m x v)
    (M n s r z : Nat) (F : Nat × Nat → Option Nat) (hm : a.eval m = .map (some M)) (hown : MapAt w M n F) (hn : n < maxLen) (h1 : r < 65536) (h2 : z < 65536) (hs : s ≤ 1000000)
    (hx : a.eval x = .agg #[.int .u16 (r : Int), .int .u16 (z : Int)]) (hv : a.eval v = .int .i64 (s : Int))
    (hK : ∀ w', MapAt w' M (n + 1) (fun k' => if k' = (r, z) then some s else F k') → Turns (fun i => i = M) w w' → wpList Try.prog ops Q rest (a.put o.dst undef) w') : wpList Try.prog ops Q (o :: rest) a w := by
  refine wpList_plain hg fun K' hK' => ?_
  obtain ⟨w', hrun, r1, r2⟩ := hown.put (k := (r, z)) hn h1 h2 hs
  unfold ck at hrun
  unfold Oper.wp
  simp [execOp, hop, hm, hx, hv, hrun, Result.andThen]
  exact hK' _ _ (hK w' r1 (mt_turns r2))

/-- A table as New builds it: the box of t, its two fields, its map. -/
structure TabAt (w : World) (M T X n L : Nat) (F : Nat × Nat → Option Nat) : Prop where
  box : w.heap[X]? = some (.cells #[.pointer (some ⟨T, 0, none⟩)] 117)
  tab : w.heap[T]? = some (.cells #[.map (some M), .int .u16 (L : Int)] 147)
  map : MapAt w M n F

set_option maxRecDepth 20000 in
set_option maxHeartbeats 1000000 in
theorem new1_any (M T X n L r z s : Nat) (F : Nat × Nat → Option Nat) (w : World) (h : TabAt w M T X n L F) (hn : n < maxLen) (hr : r < 65536) (hz : z < 65536) (hs : s ≤ 1000000) (hMT : M ≠ T) (hMX : M ≠ X) (hTX : T ≠ X) (hMw : M < w.heap.size) :
    Calls Try.prog 88 #[.int .i64 (s : Int), .agg #[.int .u16 (r : Int), .int .u16 (z : Int)], .pointer (some ⟨X, 0, none⟩)] w fun e w' => e = .returned (.tuple #[]) ∧ TabAt w' M T X (n + 1) (max L z) (fun k' => if k' = (r, z) then some s else F k') ∧ Turns (fun i => i = M ∨ i = T) w w' := by
  obtain ⟨W, hW⟩ : ∃ W, w.alloc (.cells #[.int .u16 (r : Int), .int .u16 (z : Int)] 84) = W := ⟨_, rfl⟩
  have hbw : Below w.heap.size w W := by rw [← hW]; exact Below.al1 w _
  have hbox : W.heap[X]? = _ := (hbw.block X (lt_heap h.box)).trans h.box
  have htab : W.heap[T]? = _ := (hbw.block T (lt_heap h.tab)).trans h.tab
  have hmap : MapAt W M n F := h.map.turned (T := fun _ => False) (Turns.of_below' hbw) (fun h => h)
  have hBc : W.heap[w.heap.size]? = some (.cells #[.int .u16 (r : Int), .int .u16 (z : Int)] 84) := by rw [← hW]; exact (heap_pushed [.cells #[.int .u16 (r : Int), .int .u16 (z : Int)] 84] w 0 _).2 rfl
  have c0 : W.cell? ⟨X, 0, none⟩ = some (.pointer (some ⟨T, 0, none⟩)) := cell_heap hbox rfl
  have c1 : W.cell? ⟨T, 0, none⟩ = some (.map (some M)) := cell_heap htab rfl
  have c2 : W.cell? ⟨w.heap.size, 0, none⟩ = some (.int .u16 (r : Int)) := cell_heap hBc rfl
  have c3 : W.cell? ⟨w.heap.size, 1, none⟩ = some (.int .u16 (z : Int)) := cell_heap hBc rfl
  have Hmap := Lib.hid hmap
  subst hW
  go_enter Try.func88, Try.ntmps88
  go_wp2_with fail
  generalize w.alloc (.cells #[.int .u16 (r : Int), .int .u16 (z : Int)] 84) = W at *
  refine wp_region_still_tail 6 (by kernel_rfl) (by kernel_rfl) ?_
  simp only [List.take_succ_cons, List.take_zero, List.drop_succ_cons, List.drop_zero]
  have d0 : W.drew.cell? ⟨X, 0, none⟩ = some (.pointer (some ⟨T, 0, none⟩)) := c0
  have d1 : W.drew.cell? ⟨T, 0, none⟩ = some (.map (some M)) := c1
  have d2 : W.drew.cell? ⟨w.heap.size, 0, none⟩ = some (.int .u16 (r : Int)) := c2
  have d3 : W.drew.cell? ⟨w.heap.size, 1, none⟩ = some (.int .u16 (z : Int)) := c3
  have Dmap : Hid (MapAt W.drew M n F) := Lib.hid hmap
  have Hww : Hid (Turns (fun _ => False) w W.drew) := Lib.hid ⟨hbw.os, hbw.tape, hbw.output, hbw.size, fun i hi _ => hbw.block i hi⟩
  have dbox : Hid (W.drew.heap[X]? = some (.cells #[.pointer (some ⟨T, 0, none⟩)] 117)) := Lib.hid hbox
  have dtab : Hid (W.drew.heap[T]? = some (.cells #[.map (some M), .int .u16 (L : Int)] 147)) := Lib.hid htab
  change wpStill _ _ W.drew (fun a' => wpList _ _ _ _ a' W.drew) _ _
  clear hbox htab hmap hBc hbw c0 c1 c2 c3 Hmap h
  generalize W.drew = W1 at *
  repeat still_step
  try refine wpStill_nil ?_
  refine wpList_put_at _ rfl _ _ _ rfl M n s r z F rfl Dmap.out hn hr hz hs rfl rfl ?_
  intro W2 hm2 ht2
  have Hm2 := Lib.hid hm2
  have Hw2 : Hid (Turns (fun i => i = M) w W2) := Lib.hid ((Hww.out.mono (T' := fun i => i = M) (fun i _ h => h.elim)).trans ht2)
  have e0 : Hid (W2.drew.heap[X]? = some (.cells #[.pointer (some ⟨T, 0, none⟩)] 117)) := Lib.hid ((ht2.block X (lt_heap dbox.out) (fun e => hMX e.symm)).trans dbox.out)
  have e1 : Hid (W2.drew.heap[T]? = some (.cells #[.map (some M), .int .u16 (L : Int)] 147)) := Lib.hid ((ht2.block T (lt_heap dtab.out) (fun e => hMT e.symm)).trans dtab.out)
  have c0 : W2.drew.cell? ⟨X, 0, none⟩ = some (.pointer (some ⟨T, 0, none⟩)) := cell_heap e0.out rfl
  have c1 : W2.drew.cell? ⟨T, 1, none⟩ = some (.int .u16 (L : Int)) := cell_heap e1.out rfl
  have c3 : W2.drew.cell? ⟨w.heap.size, 1, none⟩ = some (.int .u16 (z : Int)) := ht2.cell d3 (fun e => by simp at e; omega)
  have f1 : W2.drew.frozen? ⟨T, 1, none⟩ = false := by simp [World.frozen?, e1.out]
  clear hm2 ht2 d0 d1 d2 d3
  go_wp2_with fail
  refine wp_region_still_tail 10 (by kernel_rfl) (by kernel_rfl) ?_
  simp only [List.take_succ_cons, List.take_zero, List.drop_succ_cons, List.drop_zero]
  change wpStill _ _ W2.drew (fun a' => wpList _ _ _ _ a' W2.drew) _ _
  have Hm3 : Hid (MapAt W2.drew M (n + 1) fun k' => if k' = (r, z) then some s else F k') := Lib.hid Hm2.out
  have Hw3 : Hid (Turns (fun i => i = M) w W2.drew) := Lib.hid ⟨Hw2.out.os, Hw2.out.tape, Hw2.out.output, Hw2.out.size, Hw2.out.block⟩
  clear Hm2 Hw2
  generalize W2.drew = W3 at *
  repeat still_step
  try refine wpStill_nil ?_
  have hmx : (if L < z then (z : Int) else (L : Int)) = ((max L z : Nat) : Int) := by split <;> omega
  rw [hmx]
  clear hmx
  go_wp2
  go_end0
  have hset := Turns.set (Turns.refl (fun i => i = T) W3) (p := ⟨T, 1, none⟩) rfl (.int .u16 ((max L z : Nat) : Int))
  exact ⟨rfl, ⟨(hset.block X (lt_heap e0.out) (fun e => hTX e.symm)).trans e0.out, two_set1 _ e1.out, Hm3.out.turned hset hMT⟩,
    (Hw3.out.mono (T' := fun i => i = M ∨ i = T) (fun i _ h => .inl h)).trans (hset.mono (fun i _ h => .inr h))⟩

end Go.Proofs.Ytajidlihepjegaa
