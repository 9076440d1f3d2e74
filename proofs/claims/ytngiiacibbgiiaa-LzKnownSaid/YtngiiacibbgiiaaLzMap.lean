/- Maps whose keys are three bytes: what a store and a look-up do. -/
import Derived.Test.YtngiiacibbgiiaaLzE
import Derived.Maps.OwnSet
import Derived.Maps.OwnOps
import Derived.DeepKeys4
namespace Go.Proofs.Ytngiiacibbgiiaa
open Go.RowKit Go.Maps

set_option maxRecDepth 100000

/-- Three bytes as a key. -/
def tv (k : Nat × Nat × Nat) : Value := .agg #[.int .u8 (k.1 : Int), .int .u8 (k.2.1 : Int), .int .u8 (k.2.2 : Int)]

theorem thr_under : Try.prog.underlying 48 = some (.array 3 5) := by kernel_rfl
theorem thr_cells : Try.prog.cellsOf 48 = 3 := by kernel_rfl
theorem byt_cells : Try.prog.cellsOf 5 = 1 := by kernel_rfl
theorem thr_keyt : Try.prog.keyType 48 = true := by kernel_rfl
theorem typs_pos : Try.prog.types.size = Try.prog.types.size - 1 + 1 := by kernel_rfl

theorem thr_laid : laidOutB Try.prog = true := by kernel_rfl
theorem thr_row : (48 : TypeId) < Try.prog.types.size := of_decide_eq_true (by kernel_rfl)
theorem thr_wide : (match Try.prog.underlying 48 with | some (.array _ _) | some (.struct _) => true | _ => false) = true := by rw [thr_under]
theorem thr_tiled : Try.prog.keyTypeAt 2 48 = true := by kernel_rfl
theorem thr_law : WideMaps.KeyLaw Try.prog 48 := deep_law_laid thr_laid (m := 2) (by omega) thr_row thr_tiled thr_wide
theorem thr_keyed : Keyed Try.prog 48 := Keyed.of_law thr_law

theorem thr_formed {c0 c1 c2 : Value} : (Value.agg #[c0, c1, c2]).formed Try.prog 48 = true := by
  simp [Value.formed, thr_cells]

theorem wf_byt {a : Nat} (h : a < 256) : (Lit.int .u8 (a : Int)).wf = true := by
  have hm : IntKind.u8.min = 0 := by decide
  have hx : IntKind.u8.max = 255 := by decide
  simp [Lit.wf, hm, hx]; omega

theorem lit_byt {a : Nat} (h : a < 256) (d : Nat) : Try.prog.keyLits (d + 1) 5 [.int .u8 (a : Int)] = some [.int .u8 (a : Int)] := by
  have hu : Try.prog.underlying 5 = some (.int .u8) := by kernel_rfl
  unfold Program.keyLits
  rw [hu]
  simp [wf_byt h]

/-- The key's own words. -/
def tl3 (k : Nat × Nat × Nat) : Lit := .string (keyBytes [.int .u8 (k.1 : Int), .int .u8 (k.2.1 : Int), .int .u8 (k.2.2 : Int)])
/-- Three bytes that are bytes. -/
def B3 (k : Nat × Nat × Nat) : Prop := k.1 < 256 ∧ k.2.1 < 256 ∧ k.2.2 < 256

theorem lits_thr {k : Nat × Nat × Nat} (h : B3 k) (d : Nat) : Try.prog.keyLits (d + 2) 48 [.int .u8 (k.1 : Int), .int .u8 (k.2.1 : Int), .int .u8 (k.2.2 : Int)] = some [.int .u8 (k.1 : Int), .int .u8 (k.2.1 : Int), .int .u8 (k.2.2 : Int)] := by
  unfold Program.keyLits
  rw [thr_under]
  simp only [List.length_cons, List.length_nil, thr_cells]
  have hr : List.range 3 = [0, 1, 2] := rfl
  rw [hr]
  simp [byt_cells, lit_byt h.1, lit_byt h.2.1, lit_byt h.2.2]

theorem thr_key {k : Nat × Nat × Nat} (h : B3 k) : keyOf Try.prog 48 (tv k) = some (tl3 k) := by
  unfold keyOf
  rw [thr_under]
  simp only [thr_keyt, tv, thr_formed, Bool.and_self, if_true]
  have hd : Try.prog.types.size + 1 = Try.prog.types.size - 1 + 2 := by have := typs_pos; omega
  rw [hd]
  have : (Value.agg #[.int .u8 (k.1 : Int), .int .u8 (k.2.1 : Int), .int .u8 (k.2.2 : Int)]).cells.toList = [.int .u8 (k.1 : Int), .int .u8 (k.2.1 : Int), .int .u8 (k.2.2 : Int)] := by simp [Value.cells]
  rw [this, lits_thr h]
  rfl

theorem tl3_inj {k k' : Nat × Nat × Nat} (h1 : B3 k) (h2 : B3 k') (h : tl3 k = tl3 k') : k = k' := by
  have e := thr_keyed.inj (thr_key h1) (by rw [h]; exact thr_key h2)
  unfold tv at e
  simp only [Value.agg.injEq] at e
  simp at e
  obtain ⟨a, b, c⟩ := k
  obtain ⟨a', b', c'⟩ := k'
  simp only at e
  obtain ⟨e1, e2, e3⟩ := e
  have e1 : a = a' := by omega
  have e2 : b = b' := by omega
  have e3 : c = c' := by omega
  rw [e1, e2, e3]

theorem tl3_isKey (k : Nat × Nat × Nat) : WideAt.IsKeyLit (tl3 k) := trivial

/-- The element's reading. -/
noncomputable abbrev relem3 : Value → Option (DataW Unit × List MemPlace) := plainElem Try.prog 3

/-- Block M is a map of at most n entries that reads as F. -/
def Map3 (w : World) (M n : Nat) (F : Nat × Nat × Nat → Option Nat) : Prop :=
  ∃ D : DataW Unit, w.ownsMap Try.prog 48 relem3 M n D ∧ ∀ k : Nat × Nat × Nat, B3 k → Maps.has D (tl3 k) = (F k).isSome ∧ ∀ x, F k = some x → ∀ z, D.atKey (tl3 k) z = .lit (.int .i64 (x : Int))

theorem int3_under : Try.prog.underlying 3 = some (.int .i64) := by kernel_rfl
theorem map3_under : Try.prog.underlying 47 = some (.map 48 3) := by kernel_rfl

theorem wf_sml {x : Nat} (h : x ≤ 1048576) : (Lit.int .i64 (x : Int)).wf = true := by
  have hm : IntKind.i64.min = -9223372036854775808 := by decide
  have hx : IntKind.i64.max = 9223372036854775807 := by decide
  simp [Lit.wf, hm, hx]; omega

theorem Map3.made (w : World) : Map3 (w.alloc (.map #[] 0)) w.heap.size 0 fun _ => none :=
  ⟨_, World.ownsMap_made w _ _ _, fun k _ => ⟨rfl, fun x h => by cases h⟩⟩

theorem Map3.put {w : World} {M n x : Nat} {F : Nat × Nat × Nat → Option Nat} {k : Nat × Nat × Nat} (h : Map3 w M n F) (hn : n < maxLen) (h1 : B3 k) (hx : x ≤ 1048576) :
    ∃ w', (Instr.mapUpdate 47 (.map (some M)) (tv k) (.int .i64 (x : Int))).run Try.prog w = .ok () w' ∧ Map3 w' M (n + 1) (fun k' => if k' = k then some x else F k') ∧ w.mapTurned w' M := by
  obtain ⟨D, hD, hF⟩ := h
  obtain ⟨w', hr, ho, ht⟩ := hD.store thr_keyed map3_under hn (thr_key h1) (plainElem_int int3_under (wf_sml hx))
  refine ⟨w', hr, ⟨_, ho, fun k' g1 => ?_⟩, ht⟩
  by_cases e : k' = k
  · subst e
    simp only [if_true, Option.isSome_some, Option.some.injEq]
    exact ⟨Maps.has_put_same hD.isMap (tl3_isKey _) _, fun y hy z => by subst hy; exact Maps.atKey_put_same hD.isMap (tl3_isKey _) _ z⟩
  · simp only [if_neg e]
    have hne : tl3 k' ≠ tl3 k := fun he => e (tl3_inj g1 h1 he)
    exact ⟨by rw [Maps.has_put_other hne]; exact (hF k' g1).1, fun y hy z => by rw [Maps.atKey_put_other hne]; exact (hF k' g1).2 y hy z⟩

theorem int3_zero (w : World) : (zeroValue 3).run Try.prog w = .ok (.int .i64 0) w := by
  kernel_rfl

theorem Map3.look {w : World} {M n : Nat} {F : Nat × Nat × Nat → Option Nat} {k : Nat × Nat × Nat} (h : Map3 w M n F) (h1 : B3 k) :
    (Instr.lookup 47 (.map (some M)) (tv k) true).run Try.prog w = .ok (.tuple #[.int .i64 (((F k).getD 0 : Nat) : Int), .bool (F k).isSome]) w := by
  obtain ⟨D, hD, hF⟩ := h
  obtain ⟨v, ps, hr, hv⟩ := hD.look_ok thr_keyed map3_under (int3_zero w) (plainElem_int int3_under (wf_sml (x := 0) (by omega))) (thr_key h1)
  obtain ⟨a, rfl, hz, -⟩ := plainElem_int_inv int3_under hv
  simp only [Prod.mk.injEq] at hz
  rw [hr, (hF k h1).1]
  cases hk : F k with
  | none =>
    rw [Maps.atKey_of_not_has (by rw [(hF k h1).1, hk]; rfl)] at hz
    simp at hz
    simp [← hz.1]
  | some x =>
    rw [(hF k h1).2 x hk] at hz
    simp at hz
    simp [← hz.1]

theorem Map3.turned {w w' : World} {M n : Nat} {F : Nat × Nat × Nat → Option Nat} (h : Map3 w M n F) {T : Nat → Prop} (ht : Turns T w w') (hT : ¬ T M) : Map3 w' M n F := by
  obtain ⟨D, ⟨es, clock, hb, r⟩, hF⟩ := h
  exact ⟨D, ⟨es, clock, (ht.block M (lt_heap hb) hT).trans hb, r⟩, hF⟩
theorem Map3.lt {w : World} {M n : Nat} {F : Nat × Nat × Nat → Option Nat} (h : Map3 w M n F) : M < w.heap.size := by
  obtain ⟨D, hD, _⟩ := h
  exact hD.lt
theorem mt_turns3 {w w' : World} {M : Nat} (h : w.mapTurned w' M) : Turns (fun i => i = M) w w' := Turns.of_grown h.grown (fun i e => by cases e; rfl)

theorem wpList_put3 (w : World) {ops : Array Oper} {rest : List Oper} {o : Oper} {a : Act} {Q : Exit → Act → World → Prop} (hg : o.guard = none) (m x v : Operand) (hop : o.op = Op.mapUpdate 47 m x v)
    (M n s : Nat) (k : Nat × Nat × Nat) (F : Nat × Nat × Nat → Option Nat) (hm : a.eval m = .map (some M)) (hown : Map3 w M n F) (hn : n < maxLen) (h1 : B3 k) (hs : s ≤ 1048576)
    (hx : a.eval x = tv k) (hv : a.eval v = .int .i64 (s : Int))
    (hK : ∀ w', Map3 w' M (n + 1) (fun k' => if k' = k then some s else F k') → Turns (fun i => i = M) w w' → wpList Try.prog ops Q rest (a.put o.dst undef) w') : wpList Try.prog ops Q (o :: rest) a w := by
  refine wpList_plain hg fun K' hK' => ?_
  obtain ⟨w', hrun, r1, r2⟩ := hown.put (k := k) hn h1 hs
  unfold Oper.wp
  simp [execOp, hop, hm, hx, hv, hrun, Result.andThen]
  exact hK' _ _ (hK w' r1 (mt_turns3 r2))

end Go.Proofs.Ytngiiacibbgiiaa
