/- A slice that comes in as an argument, of elements of any kind that can be opened: what it reads as. -/
import Derived.Test.YtonhcdhlinlncaaLift
import Derived.Test.YtonhcdhlinlncaaRowG
import Derived.Deep.Slices
namespace Go.Proofs.Ytonhcdhlinlncaa
open Go.ChangeShapes Go.WideShapes Go.ChangeAt Go.RowKit Go.Joins Go.Deep

set_option maxRecDepth 100000 in
theorem open_rows {α : Type} [Inhabited α] {ec : α → List Value} {k : Nat} {Good : α → Prop} {H : Type} {enc : TypeId × Value → H} {W : World} {base : Nat} {v : Value} {d : DataW H} {p : List MemPlace} {t e : TypeId}
    (ht : Try.prog.underlying t = some (.slice e)) (hk : Try.prog.cellsOf e = k)
    (hat : ∀ (n : Nat) (a : Addr) (D : DataW H) (Pl : List MemPlace) (cs : List Value), W.cells? 0 a k = some cs → DataW.trod enc Try.prog W 0 (fun _ => true) true n e cs = some (D, Pl) → ∃ x : α, Good x ∧ ∀ j u, (ec x)[j]? = some u → W.cell? (a.add j) = some u)
    (hv : Value.okWide Try.prog W .any base t v) (h : DataW.Trod enc Try.prog W 0 (fun _ => true) true t v d p) :
    ∃ xs : List α, RwG ec k W v xs ∧ ∀ x ∈ xs, Good x := by
  obtain ⟨a0, len, cap, rfl⟩ := okWide_slice ht hv
  obtain ⟨fuel, hf⟩ := h
  rcases open_slice ht hf with ⟨hcs, -⟩ | ⟨a, len', cap', m, n, D, Pl, hcs, hb, hl, hm, hmm, hx, hi⟩
  · simp [Value.cells] at hcs
    obtain ⟨rfl, rfl, rfl⟩ := hcs
    exact ⟨[], ⟨⟨none, 0, rfl, Nat.le_refl _, by simp [maxLen], .inl ⟨rfl, rfl⟩⟩, fun c h => by cases h; rfl⟩, fun r h => by cases h⟩
  · simp [Value.cells] at hcs
    obtain ⟨rfl, rfl, rfl⟩ := hcs
    have hh : W.has Try.prog .any base a e cap := by
      have h1 := hv
      unfold Value.okWide at h1
      rw [ht] at h1
      simp only [Cell.okWide, ht, Cell.ok] at h1
      exact h1.2.2
    obtain ⟨-, hspot, row, cells, hsh, -⟩ := hh
    have hlt : a.block < W.heap.size := by
      unfold World.shape? at hsh
      cases hq : W.heap[a.block]? with
      | none => rw [hq] at hsh; cases hsh
      | some o => exact (Array.getElem?_eq_some_iff.1 hq).1
    obtain ⟨ab, ao, asp⟩ := a
    dsimp only at hspot hlt
    subst hspot
    rw [hk] at hi
    have H : ∀ i, i < len → ∃ r : α, Good r ∧ ∀ j u, (ec r)[j]? = some u → W.cell? ((⟨ab, ao, none⟩ : Addr).add (i * k) |>.add j) = some u := fun i him => by
      obtain ⟨cs', hc, ht⟩ := hi i (by rw [hmm]; simp; omega)
      exact hat _ _ _ _ _ hc ht
    obtain ⟨f, hf'⟩ : ∃ f : Nat → α, ∀ i, i < len → Good (f i) ∧ ∀ j u, (ec (f i))[j]? = some u → W.cell? ((⟨ab, ao, none⟩ : Addr).add (i * k) |>.add j) = some u := by
      classical
      refine ⟨fun i => if h : i < len then Classical.choose (H i h) else default, fun i him => ?_⟩
      simp only [him, dif_pos]
      exact Classical.choose_spec (H i him)
    have hln : ((List.range len).map f).length = len := by simp
    refine ⟨(List.range len).map f, ⟨⟨_, cap, by rw [hln], by rw [hln]; exact hl, hm, .inr ⟨_, _, rfl, hlt, fun i x hx j u hu => ?_⟩⟩, fun c h => by cases h⟩, fun r hr => ?_⟩
    · rw [List.getElem?_map] at hx
      cases hr : (List.range len)[i]? with
      | none => rw [hr] at hx; cases hx
      | some q =>
        rw [hr] at hx
        obtain ⟨hlt2, hq⟩ := List.getElem?_eq_some_iff.1 hr
        rw [List.getElem_range] at hq
        subst hq
        cases hx
        have h4 := (hf' i (by simpa using hlt2)).2 j u hu
        rw [Addr.add_lit, Addr.add_lit] at h4
        exact h4
    · obtain ⟨i, hi', rfl⟩ := List.mem_map.1 hr
      exact (hf' i (by simpa using hi')).1

end Go.Proofs.Ytonhcdhlinlncaa
