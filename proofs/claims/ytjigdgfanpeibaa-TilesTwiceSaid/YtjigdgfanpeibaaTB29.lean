/- tiles: maps from numbers to slices: what a store and a look-up do. -/
import Derived.Test.YtjigdgfanpeibaaTB28
import Derived.Maps.OwnSet
import Derived.Maps.OwnOps
import Derived.Lib.SlKeysI
namespace Go.Proofs.Ytjigdgfanpeibaa
open Go.RowKit Go.Maps

/-- A value reads as itself. -/
def relV (v : Value) : Option (DataW Value × List MemPlace) := some (.held v, [])
theorem mk_under : Try.prog.underlying 3 = some (.int .i64) := by kernel_rfl
theorem mm_under : Try.prog.underlying 91 = some (.map 3 57) := by kernel_rfl
def IntD (D : DataW Value) : Prop := ∃ es, D = .map es ∧ ∀ p ∈ es, ∃ x, p.1 = .int .i64 x
theorem mem_insertD {x p : Lit × DataW Value} : ∀ {l : List (Lit × DataW Value)}, p ∈ DataW.insert x l → p = x ∨ p ∈ l
  | [], h => .inl (by simpa [DataW.insert] using h)
  | y :: r, h => by
    unfold DataW.insert at h
    split at h
    · rcases List.mem_cons.1 h with h | h
      · exact .inl h
      · exact .inr h
    · rcases List.mem_cons.1 h with h | h
      · exact .inr (by rw [h]; exact List.mem_cons_self)
      · exact (mem_insertD h).imp id fun h => List.mem_cons_of_mem _ h
theorem IntD.put {D : DataW Value} (h : IntD D) (x : Int) (d : DataW Value) : IntD (D.put (.int .i64 x) d) := by
  obtain ⟨es, rfl, he⟩ := h
  refine ⟨_, rfl, fun p hp => ?_⟩
  rcases mem_insertD hp with rfl | hp
  · exact ⟨x, rfl⟩
  · exact he p (List.mem_filter.1 hp).1

/-- Block M is a map of at most n entries that reads as F. -/
def MapV (w : World) (M n : Nat) (F : Int → Option Value) : Prop :=
  ∃ D : DataW Value, w.ownsMap Try.prog 3 relV M n D ∧ IntD D ∧ ∀ k : Int, Maps.has D (.int .i64 k) = (F k).isSome ∧ ∀ v, F k = some v → ∀ z, D.atKey (.int .i64 k) z = .held v
theorem wf_key {x : Int} (h : 0 ≤ x ∧ x ≤ 1048576) : (Lit.int .i64 x).wf = true := by
  have hm : IntKind.i64.min = -9223372036854775808 := by decide
  have hx : IntKind.i64.max = 9223372036854775807 := by decide
  simp [Lit.wf, hm, hx]; omega
theorem mk_key {x : Int} (h : 0 ≤ x ∧ x ≤ 1048576) : keyOf Try.prog 3 (.int .i64 x) = some (.int .i64 x) := keyOf_int_mk mk_under (wf_key h)
theorem mk_keyed : Keyed Try.prog 3 := int_keyed mk_under
theorem int_isKey {x : Int} (h : 0 ≤ x ∧ x ≤ 1048576) : WideAt.IsKeyLit (.int .i64 x) := mk_keyed.key (mk_key h)
theorem MapV.made (w : World) : MapV (w.alloc (.map #[] 0)) w.heap.size 0 fun _ => none :=
  ⟨_, World.ownsMap_made w _ _ _, ⟨[], rfl, fun p hp => by cases hp⟩, fun k => ⟨rfl, fun x h => by cases h⟩⟩
theorem MapV.put {w : World} {M n : Nat} {F : Int → Option Value} (h : MapV w M n F) (hn : n < maxLen) {k : Int} (h1 : 0 ≤ k ∧ k ≤ 1048576) (v : Value) :
    ∃ w', (Instr.mapUpdate 91 (.map (some M)) (.int .i64 k) v).run Try.prog w = .ok () w' ∧ MapV w' M (n + 1) (fun k' => if k' = k then some v else F k') ∧ w.mapTurned w' M := by
  obtain ⟨D, hD, hI, hF⟩ := h
  obtain ⟨w', hr, ho, ht⟩ := hD.store mk_keyed mm_under hn (mk_key h1) (val := v) (d := .held v) (ps := []) rfl
  refine ⟨w', hr, ⟨_, ho, hI.put k _, fun k' => ?_⟩, ht⟩
  by_cases e : k' = k
  · subst e
    simp only [if_true, Option.isSome_some, Option.some.injEq]
    exact ⟨Maps.has_put_same hD.isMap (int_isKey h1) _, fun y hy z => by subst hy; exact Maps.atKey_put_same hD.isMap (int_isKey h1) _ z⟩
  · simp only [if_neg e]
    have hne : (Lit.int .i64 k') ≠ (Lit.int .i64 k) := fun he => e (by cases he; rfl)
    exact ⟨by rw [Maps.has_put_other hne]; exact (hF k').1, fun y hy z => by rw [Maps.atKey_put_other hne]; exact (hF k').2 y hy z⟩
theorem mz_zero (w : World) : (zeroValue 57).run Try.prog w = .ok (.slice none 0 0) w := by kernel_rfl
theorem MapV.look {w : World} {M n : Nat} {F : Int → Option Value} (h : MapV w M n F) {k : Int} (h1 : 0 ≤ k ∧ k ≤ 1048576) :
    (Instr.lookup 91 (.map (some M)) (.int .i64 k) false).run Try.prog w = .ok ((F k).getD (.slice none 0 0)) w := by
  obtain ⟨D, hD, hI, hF⟩ := h
  obtain ⟨v, ps, hr, hv⟩ := hD.lookup mk_keyed mm_under (mz_zero w) (zd := .held (.slice none 0 0)) (zp := []) rfl (mk_key h1)
  rw [hr]
  have hv2 : DataW.held v = D.atKey (.int .i64 k) (.held (.slice none 0 0)) := (by simpa [relV] using hv : DataW.held v = D.atKey (.int .i64 k) (.held (.slice none 0 0)) ∧ ps = []).1
  cases hk : F k with
  | none =>
    rw [Maps.atKey_of_not_has (by rw [(hF k).1, hk]; rfl)] at hv2
    cases hv2; rfl
  | some x =>
    rw [(hF k).2 x hk] at hv2
    cases hv2; rfl
theorem MapV.turned {w w' : World} {M n : Nat} {F : Int → Option Value} (h : MapV w M n F) {T : Nat → Prop} (ht : Turns T w w') (hT : ¬ T M) : MapV w' M n F := by
  obtain ⟨D, ⟨es, clock, hb, r⟩, hF⟩ := h
  exact ⟨D, ⟨es, clock, (ht.block M (lt_heapT hb) hT).trans hb, r⟩, hF⟩
theorem MapV.lt {w : World} {M n : Nat} {F : Int → Option Value} (h : MapV w M n F) : M < w.heap.size := by
  obtain ⟨D, hD, _⟩ := h
  exact hD.lt
theorem mt_turnsV {w w' : World} {M : Nat} (h : w.mapTurned w' M) : Turns (fun i => i = M) w w' := Turns.of_grown h.grown (fun i e => by cases e; rfl)

end Go.Proofs.Ytjigdgfanpeibaa
