/- codec: a picture that comes in as an argument. -/
import Derived.Deep.Slices
import Derived.Test.YtoladolgmeanhaaGreatRP3
namespace Go.Proofs.YtoladolgmeanhaaGreat
open Go.ChangeShapes Go.WideShapes Go.ChangeAt Go.RowKit Go.Joins Go.Deep
theorem iv_cellsD : Tryz.prog.cellsOf 24 = 3 := by kernel_rfl
set_option maxRecDepth 100000 in
theorem open_u32sD {H : Type} {enc : TypeId × Value → H} {W : World} {base n : Nat} {v : Value} {y : DataW H × List MemPlace} (hv : Cell.okWide Tryz.prog W .any base 22 v) (h : DataW.trod enc Tryz.prog W 0 (fun _ => true) true n 22 [v] = some y) :
    ∃ (p : Option Addr) (c : Nat) (S : List Nat), v = .slice p S.length c ∧ RowAt encP 1 W p S ∧ (∀ v ∈ S, v < 4294967296) ∧ S.length ≤ c ∧ c ≤ 9223372036854775807 ∧ (p = none → c = 0) := by
  rcases open_slice1 Tryz.underlying22 (by kernel_rfl) h with ⟨hcs, -⟩ | ⟨a, len, cap, m, n, V, D, Pl, hcs, hb, hl, hm, hmm, hx, hi⟩
  · simp at hcs
    subst hcs
    exact ⟨none, 0, [], rfl, .inl ⟨rfl, rfl⟩, fun v h => (by cases h), Nat.le_refl _, by decide, fun _ => rfl⟩
  · simp at hcs
    subst hcs
    have hh : W.has Tryz.prog .any base a 41 cap := by
      have h1 := hv
      simp only [Cell.okWide, Tryz.underlying22, Cell.ok] at h1
      exact h1.2.2
    obtain ⟨-, hspot, row, cells, hsh, -⟩ := hh
    have hlt : a.block < W.heap.size := by
      unfold World.shape? at hsh
      cases hq : W.heap[a.block]? with
      | none => rw [hq] at hsh; cases hsh
      | some o => exact (Array.getElem?_eq_some_iff.1 hq).1
    obtain ⟨ab, ao, asp⟩ := a
    dsimp only at hspot hlt
    subst hspot
    have H : ∀ i, i < len → ∃ x : Nat, x < 4294967296 ∧ W.cell? ⟨ab, ao + i, none⟩ = some (.int .u32 (x : Int)) := fun i him => by
      obtain ⟨hc, ht⟩ := hi i (by rw [hmm]; simp; omega)
      obtain ⟨x, e, -, wx⟩ := DataW.trod_int Tryz.underlying41 ht
      simp at e
      rw [e] at hc
      rw [Addr.add_lit] at hc
      have hw := wf_u32b wx
      exact ⟨x.toNat, by omega, by rw [Int.toNat_of_nonneg hw.1]; exact hc⟩
    obtain ⟨f, hf'⟩ : ∃ f : Nat → Nat, ∀ i, i < len → f i < 4294967296 ∧ W.cell? ⟨ab, ao + i, none⟩ = some (.int .u32 (f i : Int)) := by
      classical
      refine ⟨fun i => if h : i < len then Classical.choose (H i h) else default, fun i him => ?_⟩
      simp only [him, dif_pos]
      exact Classical.choose_spec (H i him)
    have hln : ((List.range len).map f).length = len := by simp
    refine ⟨some ⟨ab, ao, none⟩, cap, (List.range len).map f, by rw [hln], .inr ⟨_, _, rfl, hlt, fun i x hx j u hu => ?_⟩, fun v hv => ?_, by rw [hln]; exact hl, hm, fun h => by cases h⟩
    · rw [List.getElem?_map] at hx
      cases hr : (List.range len)[i]? with
      | none => rw [hr] at hx; cases hx
      | some q =>
        rw [hr] at hx
        obtain ⟨hlt2, hq⟩ := List.getElem?_eq_some_iff.1 hr
        rw [List.getElem_range] at hq
        subst hq
        cases hx
        obtain ⟨hj, hju⟩ := List.getElem?_eq_some_iff.1 hu
        have hj0 : j = 0 := by simp [encP] at hj; omega
        subst hj0
        simp [encP] at hju
        subst hju
        have := (hf' i (by simpa using hlt2)).2
        simpa [pxv] using this
    · obtain ⟨i, hi', rfl⟩ := List.mem_map.1 hv
      exact (hf' i (by simpa using hi')).1
set_option maxRecDepth 100000 in
theorem open_imgD {H : Type} {enc : TypeId × Value → H} {W : World} {base : Nat} {v : Value} {d : DataW H} {p : List MemPlace} (hv : Value.okWide Tryz.prog W .any base 24 v) (h : DataW.Trod enc Tryz.prog W 0 (fun _ => true) true 24 v d p) :
    ∃ (wd ht : Int) (q : Option Addr) (n c : Nat) (S : List Nat), v = .agg #[.int .i64 wd, .int .i64 ht, .slice q n c] ∧ RwP W (.slice q n c) S ∧ (∀ x ∈ S, x < 4294967296) := by
  obtain ⟨v0, v1, v2, y0, y1, y2, n, rfl, rfl, rfl, h0, h1, h2⟩ := open_agg3 Tryz.underlying24 (by kernel_rfl) iv_cellsD hv h
  obtain ⟨a, e0, -, wa⟩ := DataW.trod_int Tryz.underlying3 h0
  obtain ⟨b, e1, -, wb⟩ := DataW.trod_int Tryz.underlying3 h1
  simp at e0 e1
  subst e0 e1
  have hc : Cell.okWide Tryz.prog W .any base 22 v2 := by
    have h3 := hv
    unfold Value.okWide at h3
    rw [Tryz.underlying24] at h3
    obtain ⟨cs, hcs, -, ts, hts, -, hall⟩ := h3
    cases hcs
    have ht : Tryz.prog.cellTypes Tryz.prog.depth 24 = some [3, 3, 22] := by kernel_rfl
    rw [ht] at hts
    cases hts
    obtain ⟨u, hu, hok⟩ := hall 2 v2 rfl
    cases hu
    exact hok
  obtain ⟨q, c, S, rfl, hr, hu, hl, hm, hz⟩ := open_u32sD hc h2
  exact ⟨a, b, q, S.length, c, S, rfl, ⟨⟨q, c, rfl, hl, by simp only [maxLen]; exact hm, hr⟩, fun c' h => by injection h with h1 _ h3; rw [← h3]; exact hz h1⟩, hu⟩
end Go.Proofs.YtoladolgmeanhaaGreat
