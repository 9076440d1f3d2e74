/- What is done to a buffer, as an argument: the numbers that it is. -/
import Derived.Test.YtiamooijflaggaaPixLift
import Derived.Test.YtiamooijflaggaaPixL
namespace Go.Proofs.Ytiamooijflaggaa
open Go.ChangeShapes Go.WideShapes Go.ChangeAt Go.RowKit Go.Joins Go.Deep

/-- An act's value. -/
abbrev ActV (d x y c : Int) (r : Rc) (mw mh : Int) (s : Value) (t : Rc) (dx dy : Int) : Value :=
  .agg #[.int .i64 d, .int .i64 x, .int .i64 y, .int .u32 c, .int .i64 r.x, .int .i64 r.y, .int .i64 r.a, .int .i64 r.b, .int .i64 mw, .int .i64 mh, s, .int .i64 t.x, .int .i64 t.y, .int .i64 t.a, .int .i64 t.b, .int .i64 dx, .int .i64 dy]

theorem cell_int {P : Program} {W : World} {base : Nat} {t : TypeId} {k : IntKind} {v : Value} (hu : P.underlying t = some (.int k)) (h : Cell.okWide P W .any base t v) : ∃ n, v = .int k n ∧ k.has n := by
  unfold Cell.okWide Cell.ok at h
  rw [hu] at h
  cases v <;> simp at h
  · rename_i k' n
    obtain ⟨rfl, h2⟩ := h
    exact ⟨n, rfl, h2⟩

theorem has_i64 {n : Int} (h : IntKind.i64.has n) : -9223372036854775808 ≤ n ∧ n ≤ 9223372036854775807 := by
  have hm : IntKind.i64.min = -9223372036854775808 := by decide
  have hx : IntKind.i64.max = 9223372036854775807 := by decide
  unfold IntKind.has at h
  rw [hm, hx] at h
  exact h
theorem has_u32 {n : Int} (h : IntKind.u32.has n) : 0 ≤ n ∧ n < 4294967296 := by
  have hm : IntKind.u32.min = 0 := by decide
  have hx : IntKind.u32.max = 4294967295 := by decide
  unfold IntKind.has at h
  rw [hm, hx] at h
  omega

theorem cell_slice {P : Program} {W : World} {base : Nat} {t e : TypeId} {v : Value} (hu : P.underlying t = some (.slice e)) (h : Cell.okWide P W .any base t v) : ∃ p n c, v = .slice p n c := by
  unfold Cell.okWide Cell.ok at h
  rw [hu] at h
  cases v <;> simp at h
  rename_i p n c
  exact ⟨p, n, c, rfl⟩

set_option maxRecDepth 100000 in
theorem open_act {W : World} {base : Nat} {v : Value} (hv : Value.okWide Try.prog W .any base 54 v) :
    ∃ (d x y c : Int) (r : Rc) (mw mh : Int) (p : Option Addr) (n cp : Nat) (t : Rc) (dx dy : Int), v = ActV d x y c r mw mh (.slice p n cp) t dx dy ∧ Fit r ∧ Fit t ∧ (0 ≤ c ∧ c < 4294967296) := by
  have h3 := hv
  unfold Value.okWide at h3
  rw [Try.underlying54] at h3
  obtain ⟨cs, rfl, hsz, ts, hts, -, hall⟩ := h3
  have hn : Try.prog.cellsOf 54 = 17 := by kernel_rfl
  rw [hn] at hsz
  have ht : Try.prog.cellTypes Try.prog.depth 54 = some [3, 3, 3, 49, 3, 3, 3, 3, 3, 3, 37, 3, 3, 3, 3, 3, 3] := by kernel_rfl
  rw [ht] at hts
  cases hts
  obtain ⟨l⟩ := cs
  match l, hsz with
  | [v0, v1, v2, v3, v4, v5, v6, v7, v8, v9, v10, v11, v12, v13, v14, v15, v16], _ =>
    have hi : ∀ i v, ([v0, v1, v2, v3, v4, v5, v6, v7, v8, v9, v10, v11, v12, v13, v14, v15, v16] : List Value)[i]? = some v → ∀ u, ([3, 3, 3, 49, 3, 3, 3, 3, 3, 3, 37, 3, 3, 3, 3, 3, 3] : List TypeId)[i % 17]? = some u → Cell.okWide Try.prog W .any base u v := by
      intro i v h1 u h2
      obtain ⟨u', h3, h4⟩ := hall i v (by simpa using h1)
      have h5 : u' = u := by
        have : (17 : Nat) = ([3, 3, 3, 49, 3, 3, 3, 3, 3, 3, 37, 3, 3, 3, 3, 3, 3] : List TypeId).length := rfl
        rw [this] at h2
        rw [h2] at h3
        exact (Option.some.inj h3).symm
      exact h5 ▸ h4
    obtain ⟨n0, rfl, -⟩ := cell_int Try.underlying3 (hi 0 v0 rfl _ rfl)
    obtain ⟨n1, rfl, -⟩ := cell_int Try.underlying3 (hi 1 v1 rfl _ rfl)
    obtain ⟨n2, rfl, -⟩ := cell_int Try.underlying3 (hi 2 v2 rfl _ rfl)
    obtain ⟨n3, rfl, b3⟩ := cell_int Try.underlying49 (hi 3 v3 rfl _ rfl)
    obtain ⟨n4, rfl, b4⟩ := cell_int Try.underlying3 (hi 4 v4 rfl _ rfl)
    obtain ⟨n5, rfl, b5⟩ := cell_int Try.underlying3 (hi 5 v5 rfl _ rfl)
    obtain ⟨n6, rfl, -⟩ := cell_int Try.underlying3 (hi 6 v6 rfl _ rfl)
    obtain ⟨n7, rfl, -⟩ := cell_int Try.underlying3 (hi 7 v7 rfl _ rfl)
    obtain ⟨n8, rfl, -⟩ := cell_int Try.underlying3 (hi 8 v8 rfl _ rfl)
    obtain ⟨n9, rfl, -⟩ := cell_int Try.underlying3 (hi 9 v9 rfl _ rfl)
    obtain ⟨p, n, c, rfl⟩ := cell_slice Try.underlying37 (hi 10 v10 rfl _ rfl)
    obtain ⟨n11, rfl, b11⟩ := cell_int Try.underlying3 (hi 11 v11 rfl _ rfl)
    obtain ⟨n12, rfl, b12⟩ := cell_int Try.underlying3 (hi 12 v12 rfl _ rfl)
    obtain ⟨n13, rfl, -⟩ := cell_int Try.underlying3 (hi 13 v13 rfl _ rfl)
    obtain ⟨n14, rfl, -⟩ := cell_int Try.underlying3 (hi 14 v14 rfl _ rfl)
    obtain ⟨n15, rfl, -⟩ := cell_int Try.underlying3 (hi 15 v15 rfl _ rfl)
    obtain ⟨n16, rfl, -⟩ := cell_int Try.underlying3 (hi 16 v16 rfl _ rfl)
    exact ⟨n0, n1, n2, n3, ⟨n4, n5, n6, n7⟩, n8, n9, p, n, c, ⟨n11, n12, n13, n14⟩, n15, n16, rfl, ⟨(has_i64 b4).2, (has_i64 b5).2⟩, ⟨(has_i64 b11).2, (has_i64 b12).2⟩, has_u32 b3⟩

end Go.Proofs.Ytiamooijflaggaa
