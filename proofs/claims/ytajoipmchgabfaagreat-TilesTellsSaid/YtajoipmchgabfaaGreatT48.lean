/- A slice of rectangles that comes in as an argument: the rectangles that it reads as. -/
import Derived.Test.YtajoipmchgabfaaGreatT47
import Derived.Deep.Slices
namespace Go.Proofs.YtajoipmchgabfaaGreat
open Go.ChangeShapes Go.WideShapes Go.ChangeAt Go.RowKit Go.Joins Go.Deep

set_option maxRecDepth 100000 in
theorem rc_at {H : Type} {enc : TypeId × Value → H} {W : World} {n : Nat} {a : Addr} {D : DataW H} {Pl : List MemPlace} {cs : List Value} (hc : W.cells? 0 a 4 = some cs) (ht : DataW.trod enc Tryz.prog W 0 (fun _ => true) true n 37 cs = some (D, Pl)) :
    ∃ r : Rc, Fit r ∧ ∀ j u, (encR r)[j]? = some u → W.cell? (a.add j) = some u := by
  obtain ⟨-, hl, hat⟩ := World.cells?_some hc
  obtain ⟨ys, n', -, -, -, hyl, hf⟩ := DataW.trod_struct Tryz.underlying37 ht
  have h0 := hf 0 _ rfl
  have h1 := hf 1 _ rfl
  have h2 := hf 2 _ rfl
  have h3 := hf 3 _ rfl
  match ys, hyl with
  | [y0, y1, y2, y3], _ =>
    match cs, hl with
    | [c0, c1, c2, c3], _ =>
      have hci : Tryz.prog.cellsOf 3 = 1 := by kernel_rfl
      obtain ⟨p, e0, -, wa⟩ := DataW.trod_int Tryz.underlying3 h0
      obtain ⟨q, e1, -, wb⟩ := DataW.trod_int Tryz.underlying3 h1
      obtain ⟨s, e2, -, -⟩ := DataW.trod_int Tryz.underlying3 h2
      obtain ⟨t, e3, -, -⟩ := DataW.trod_int Tryz.underlying3 h3
      simp [hci] at e0 e1 e2 e3
      subst e0 e1 e2 e3
      refine ⟨⟨p, q, s, t⟩, ⟨(wf_bounds wa).2, (wf_bounds wb).2⟩, fun j u hu => ?_⟩
      have hj : j < 4 := by
        have := (List.getElem?_eq_some_iff.1 hu).1
        simpa [encR] using this
      rw [hat j hj]
      exact hu

set_option maxRecDepth 100000 in
theorem open_rcs {H : Type} {enc : TypeId × Value → H} {W : World} {base : Nat} {v : Value} {d : DataW H} {p : List MemPlace} (hv : Value.okWide Tryz.prog W .any base 22 v) (h : DataW.Trod enc Tryz.prog W 0 (fun _ => true) true 22 v d p) :
    ∃ xs : List Rc, Rw W v xs ∧ ∀ r ∈ xs, Fit r := by
  obtain ⟨a0, len, cap, rfl⟩ := okWide_slice Tryz.underlying22 hv
  obtain ⟨fuel, hf⟩ := h
  rcases open_slice Tryz.underlying22 hf with ⟨hcs, -⟩ | ⟨a, len', cap', m, n, D, Pl, hcs, hb, hl, hm, hmm, hx, hi⟩
  · simp [Value.cells] at hcs
    obtain ⟨rfl, rfl, rfl⟩ := hcs
    exact ⟨[], ⟨⟨none, 0, rfl, Nat.le_refl _, by simp [maxLen], .inl ⟨rfl, rfl⟩⟩, fun c h => by cases h; rfl⟩, fun r h => by cases h⟩
  · simp [Value.cells] at hcs
    obtain ⟨rfl, rfl, rfl⟩ := hcs
    have hh : W.has Tryz.prog .any base a 37 cap := by
      have h1 := hv
      unfold Value.okWide at h1
      rw [Tryz.underlying22] at h1
      simp only [Cell.okWide, Tryz.underlying22, Cell.ok] at h1
      exact h1.2.2
    obtain ⟨-, hspot, row, cells, hsh, -⟩ := hh
    have hlt : a.block < W.heap.size := by
      unfold World.shape? at hsh
      cases hq : W.heap[a.block]? with
      | none => rw [hq] at hsh; cases hsh
      | some o => exact (Array.getElem?_eq_some_iff.1 hq).1
    obtain ⟨ab, ao, asp⟩ := a
    dsimp only at hspot hlt
    subst hspot
    rw [rc_cells] at hi
    have H : ∀ i, i < len → ∃ r : Rc, Fit r ∧ ∀ j u, (encR r)[j]? = some u → W.cell? ((⟨ab, ao, none⟩ : Addr).add (i * 4) |>.add j) = some u := fun i him => by
      obtain ⟨cs', hc, ht⟩ := hi i (by rw [hmm]; simp; omega)
      exact rc_at hc ht
    obtain ⟨f, hf'⟩ : ∃ f : Nat → Rc, ∀ i, i < len → Fit (f i) ∧ ∀ j u, (encR (f i))[j]? = some u → W.cell? ((⟨ab, ao, none⟩ : Addr).add (i * 4) |>.add j) = some u := by
      classical
      refine ⟨fun i => if h : i < len then Classical.choose (H i h) else default, fun i him => ?_⟩
      simp only [him, dif_pos]
      exact Classical.choose_spec (H i him)
    have hln : ((List.range len).map f).length = len := by simp
    refine ⟨(List.range len).map f, ⟨⟨_, cap, by rw [hln], by rw [hln]; exact hl, hm, .inr ⟨_, _, rfl, hlt, fun i x hx j u hu => ?_⟩⟩, fun c h => by cases h⟩, fun r hr => ?_⟩
    · rw [List.getElem?_map] at hx
      cases hr : (List.range len)[i]? with
      | none => rw [hr] at hx; cases hx
      | some q =>
        rw [hr] at hx
        obtain ⟨hlt2, hq⟩ := List.getElem?_eq_some_iff.1 hr
        rw [List.getElem_range] at hq
        subst hq
        cases hx
        have h4 := (hf' i (by simpa using hlt2)).2 j u hu
        rw [Addr.add_lit, Addr.add_lit] at h4
        exact h4
    · obtain ⟨i, hi', rfl⟩ := List.mem_map.1 hr
      exact (hf' i (by simpa using hi')).1

end Go.Proofs.YtajoipmchgabfaaGreat
