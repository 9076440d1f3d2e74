/- Maps whose keys are codes: what a store and a look-up do. -/
import Derived.Test.YtlbhgackpjfhaaaHufT
import Derived.Maps.OwnSet
import Derived.Maps.OwnOps
import Derived.DeepKeys4
namespace Go.Proofs.Ytlbhgackpjfhaaa
open Go.RowKit Go.Maps

set_option maxRecDepth 100000

/-- A code as a key. -/
def ck (k : Nat × Nat) : Value := .agg #[.int .u16 (k.1 : Int), .int .u16 (k.2 : Int)]

noncomputable def codeFields : Array Field := match Try.prog.underlying 62 with | some (.struct fs) => fs | _ => #[]

theorem code_under : Try.prog.underlying 62 = some (.struct codeFields) := by kernel_rfl
theorem code_fields : codeFields.toList.map (fun f => (f.type, f.offset)) = [(30, 0), (30, 1)] := by kernel_rfl
theorem code_named : codeFields.all (·.name != "_") = true := by kernel_rfl
theorem code_cells : Try.prog.cellsOf 62 = 2 := by kernel_rfl
theorem u16_cells : Try.prog.cellsOf 30 = 1 := by kernel_rfl
theorem code_keyt : Try.prog.keyType 62 = true := by kernel_rfl
theorem types_pos : Try.prog.types.size = Try.prog.types.size - 1 + 1 := by kernel_rfl

theorem code_laid : laidOutB Try.prog = true := by kernel_rfl
theorem code_row : (62 : TypeId) < Try.prog.types.size := of_decide_eq_true (by kernel_rfl)
theorem code_wide : (match Try.prog.underlying 62 with | some (.array _ _) | some (.struct _) => true | _ => false) = true := by rw [code_under]
theorem code_tiled : Try.prog.keyTypeAt 2 62 = true := by kernel_rfl
theorem code_law : WideMaps.KeyLaw Try.prog 62 := deep_law_laid code_laid (m := 2) (by omega) code_row code_tiled code_wide
theorem code_keyed : Keyed Try.prog 62 := Keyed.of_law code_law

theorem code_formed {c0 c1 : Value} : (Value.agg #[c0, c1]).formed Try.prog 62 = true := by
  simp [Value.formed, code_cells]

theorem wf_u16 {a : Nat} (h : a < 65536) : (Lit.int .u16 (a : Int)).wf = true := by
  have hm : IntKind.u16.min = 0 := by decide
  have hx : IntKind.u16.max = 65535 := by decide
  simp [Lit.wf, hm, hx]; omega

theorem lit_u16 {a : Nat} (h : a < 65536) (d : Nat) : Try.prog.keyLits (d + 1) 30 [.int .u16 (a : Int)] = some [.int .u16 (a : Int)] := by
  have hu : Try.prog.underlying 30 = some (.int .u16) := by kernel_rfl
  unfold Program.keyLits
  rw [hu]
  simp [wf_u16 h]

/-- The key's own words. -/
def kl (k : Nat × Nat) : Lit := .string (keyBytes [.int .u16 (k.1 : Int), .int .u16 (k.2 : Int)])

theorem lits_code {k : Nat × Nat} (h1 : k.1 < 65536) (h2 : k.2 < 65536) (d : Nat) : Try.prog.keyLits (d + 2) 62 [.int .u16 (k.1 : Int), .int .u16 (k.2 : Int)] = some [.int .u16 (k.1 : Int), .int .u16 (k.2 : Int)] := by
  unfold Program.keyLits
  rw [code_under]
  have hm : codeFields.toList.mapM (fun f => Try.prog.keyLits (d + 1) f.type (([Value.int .u16 (k.1 : Int), .int .u16 (k.2 : Int)].drop f.offset).take (Try.prog.cellsOf f.type))) = some [[Lit.int .u16 (k.1 : Int)], [.int .u16 (k.2 : Int)]] := by
    have := List.mapM_map (m := Option) (f := fun f : Field => (f.type, f.offset)) (g := fun p : TypeId × Nat => Try.prog.keyLits (d + 1) p.1 (([Value.int .u16 (k.1 : Int), .int .u16 (k.2 : Int)].drop p.2).take (Try.prog.cellsOf p.1))) (l := codeFields.toList)
    rw [code_fields] at this
    refine this.symm.trans ?_
    simp [u16_cells, lit_u16 h1, lit_u16 h2]
  simp only [List.length_cons, List.length_nil, code_cells, code_named, hm]
  simp

theorem code_key {k : Nat × Nat} (h1 : k.1 < 65536) (h2 : k.2 < 65536) : keyOf Try.prog 62 (ck k) = some (kl k) := by
  unfold keyOf
  rw [code_under]
  simp only [code_keyt, ck, code_formed, Bool.and_self, if_true]
  have hd : Try.prog.types.size + 1 = Try.prog.types.size - 1 + 2 := by have := types_pos; omega
  rw [hd]
  have : (Value.agg #[.int .u16 (k.1 : Int), .int .u16 (k.2 : Int)]).cells.toList = [.int .u16 (k.1 : Int), .int .u16 (k.2 : Int)] := by simp [Value.cells]
  rw [this, lits_code h1 h2]
  rfl

theorem kl_inj {k k' : Nat × Nat} (h1 : k.1 < 65536) (h2 : k.2 < 65536) (h1' : k'.1 < 65536) (h2' : k'.2 < 65536) (h : kl k = kl k') : k = k' := by
  have e := code_keyed.inj (code_key h1 h2) (by rw [h]; exact code_key h1' h2')
  unfold ck at e
  simp only [Value.agg.injEq] at e
  simp at e
  exact Prod.ext (by omega) (by omega)

theorem kl_isKey (k : Nat × Nat) : WideAt.IsKeyLit (kl k) := trivial

/-- The element's reading. -/
noncomputable abbrev relem : Value → Option (DataW Unit × List MemPlace) := plainElem Try.prog 3

/-- Block M is a map of at most n entries that reads as F. -/
def MapAt (w : World) (M n : Nat) (F : Nat × Nat → Option Nat) : Prop :=
  ∃ D : DataW Unit, w.ownsMap Try.prog 62 relem M n D ∧ ∀ k : Nat × Nat, k.1 < 65536 → k.2 < 65536 → Maps.has D (kl k) = (F k).isSome ∧ ∀ x, F k = some x → ∀ z, D.atKey (kl k) z = .lit (.int .i64 (x : Int))

theorem int_under : Try.prog.underlying 3 = some (.int .i64) := by kernel_rfl
theorem map_under : Try.prog.underlying 67 = some (.map 62 3) := by kernel_rfl

theorem wf_small {x : Nat} (h : x ≤ 1000000) : (Lit.int .i64 (x : Int)).wf = true := by
  have hm : IntKind.i64.min = -9223372036854775808 := by decide
  have hx : IntKind.i64.max = 9223372036854775807 := by decide
  simp [Lit.wf, hm, hx]; omega

theorem MapAt.made (w : World) : MapAt (w.alloc (.map #[] 0)) w.heap.size 0 fun _ => none :=
  ⟨_, World.ownsMap_made w _ _ _, fun k _ _ => ⟨rfl, fun x h => by cases h⟩⟩

theorem MapAt.put {w : World} {M n x : Nat} {F : Nat × Nat → Option Nat} {k : Nat × Nat} (h : MapAt w M n F) (hn : n < maxLen) (h1 : k.1 < 65536) (h2 : k.2 < 65536) (hx : x ≤ 1000000) :
    ∃ w', (Instr.mapUpdate 67 (.map (some M)) (ck k) (.int .i64 (x : Int))).run Try.prog w = .ok () w' ∧ MapAt w' M (n + 1) (fun k' => if k' = k then some x else F k') ∧ w.mapTurned w' M := by
  obtain ⟨D, hD, hF⟩ := h
  obtain ⟨w', hr, ho, ht⟩ := hD.store code_keyed map_under hn (code_key h1 h2) (plainElem_int int_under (wf_small hx))
  refine ⟨w', hr, ⟨_, ho, fun k' g1 g2 => ?_⟩, ht⟩
  by_cases e : k' = k
  · subst e
    simp only [if_true, Option.isSome_some, Option.some.injEq]
    exact ⟨Maps.has_put_same hD.isMap (kl_isKey _) _, fun y hy z => by subst hy; exact Maps.atKey_put_same hD.isMap (kl_isKey _) _ z⟩
  · simp only [if_neg e]
    have hne : kl k' ≠ kl k := fun he => e (kl_inj g1 g2 h1 h2 he)
    exact ⟨by rw [Maps.has_put_other hne]; exact (hF k' g1 g2).1, fun y hy z => by rw [Maps.atKey_put_other hne]; exact (hF k' g1 g2).2 y hy z⟩

theorem int_zero (w : World) : (zeroValue 3).run Try.prog w = .ok (.int .i64 0) w := by
  kernel_rfl

theorem MapAt.look {w : World} {M n : Nat} {F : Nat × Nat → Option Nat} {k : Nat × Nat} (h : MapAt w M n F) (h1 : k.1 < 65536) (h2 : k.2 < 65536) :
    (Instr.lookup 67 (.map (some M)) (ck k) true).run Try.prog w = .ok (.tuple #[.int .i64 (((F k).getD 0 : Nat) : Int), .bool (F k).isSome]) w := by
  obtain ⟨D, hD, hF⟩ := h
  obtain ⟨v, ps, hr, hv⟩ := hD.look_ok code_keyed map_under (int_zero w) (plainElem_int int_under (wf_small (x := 0) (by omega))) (code_key h1 h2)
  obtain ⟨a, rfl, hz, -⟩ := plainElem_int_inv int_under hv
  simp only [Prod.mk.injEq] at hz
  rw [hr, (hF k h1 h2).1]
  cases hk : F k with
  | none =>
    rw [Maps.atKey_of_not_has (by rw [(hF k h1 h2).1, hk]; rfl)] at hz
    simp at hz
    simp [← hz.1]
  | some x =>
    rw [(hF k h1 h2).2 x hk] at hz
    simp at hz
    simp [← hz.1]

theorem MapAt.kept {w w' : World} {M n : Nat} {F : Nat × Nat → Option Nat} {row : Option Nat} (h : MapAt w M n F) (hg : w.grownBy w' row) (hne : some M ≠ row) : MapAt w' M n F := by
  obtain ⟨D, hD, hF⟩ := h
  exact ⟨D, hD.kept hg hne, hF⟩

end Go.Proofs.Ytlbhgackpjfhaaa
