/- A picture that comes in as an argument: the numbers that it reads as. -/
import Derived.Test.YtajoipmchgabfaaM40
import Derived.Test.YtajoipmchgabfaaM45
import Derived.Deep.Slices
namespace Go.Proofs.Ytajoipmchgabfaa
open Go.ChangeShapes Go.WideShapes Go.ChangeAt Go.RowKit Go.Joins Go.Deep

theorem iv_cells : Try.prog.cellsOf 24 = 3 := by kernel_rfl

/-- What a picture that is handed in may be. -/
structure Img (W : World) (wd ht : Int) (p : Option Addr) (c : Nat) (S : List Int) : Prop where
  row : RowAt encU 1 W p S
  u : U32 S
  len : S.length ≤ c
  cap : c ≤ 9223372036854775807
  wb : -9223372036854775808 ≤ wd ∧ wd ≤ 9223372036854775807
  hb : -9223372036854775808 ≤ ht ∧ ht ≤ 9223372036854775807

set_option maxRecDepth 100000 in
theorem open_u32s {H : Type} {enc : TypeId × Value → H} {W : World} {base n : Nat} {v : Value} {y : DataW H × List MemPlace} (hv : Cell.okWide Try.prog W .any base 22 v) (h : DataW.trod enc Try.prog W 0 (fun _ => true) true n 22 [v] = some y) :
    ∃ (p : Option Addr) (c : Nat) (S : List Int), v = .slice p S.length c ∧ RowAt encU 1 W p S ∧ U32 S ∧ S.length ≤ c ∧ c ≤ 9223372036854775807 := by
  rcases open_slice1 Try.underlying22 (by kernel_rfl) h with ⟨hcs, -⟩ | ⟨a, len, cap, m, n, V, D, Pl, hcs, hb, hl, hm, hmm, hx, hi⟩
  · simp at hcs
    subst hcs
    exact ⟨none, 0, [], rfl, .inl ⟨rfl, rfl⟩, fun v h => (by cases h), Nat.le_refl _, by decide⟩
  · simp at hcs
    subst hcs
    have hh : W.has Try.prog .any base a 35 cap := by
      have h1 := hv
      simp only [Cell.okWide, Try.underlying22, Cell.ok] at h1
      exact h1.2.2
    obtain ⟨-, hspot, row, cells, hsh, -⟩ := hh
    have hlt : a.block < W.heap.size := by
      unfold World.shape? at hsh
      cases hq : W.heap[a.block]? with
      | none => rw [hq] at hsh; cases hsh
      | some o => exact (Array.getElem?_eq_some_iff.1 hq).1
    obtain ⟨ab, ao, asp⟩ := a
    dsimp only at hspot hlt
    subst hspot
    have H : ∀ i, i < len → ∃ x : Int, (0 ≤ x ∧ x < 4294967296) ∧ W.cell? ⟨ab, ao + i, none⟩ = some (.int .u32 x) := fun i him => by
      obtain ⟨hc, ht⟩ := hi i (by rw [hmm]; simp; omega)
      obtain ⟨x, e, -, wx⟩ := DataW.trod_int Try.underlying35 ht
      simp at e
      rw [e] at hc
      rw [Addr.add_lit] at hc
      exact ⟨x, wf_u32b wx, hc⟩
    obtain ⟨f, hf'⟩ : ∃ f : Nat → Int, ∀ i, i < len → (0 ≤ f i ∧ f i < 4294967296) ∧ W.cell? ⟨ab, ao + i, none⟩ = some (.int .u32 (f i)) := by
      classical
      refine ⟨fun i => if h : i < len then Classical.choose (H i h) else default, fun i him => ?_⟩
      simp only [him, dif_pos]
      exact Classical.choose_spec (H i him)
    have hln : ((List.range len).map f).length = len := by simp
    refine ⟨some ⟨ab, ao, none⟩, cap, (List.range len).map f, by rw [hln], .inr ⟨_, _, rfl, hlt, fun i x hx j u hu => ?_⟩, fun v hv => ?_, by rw [hln]; exact hl, hm⟩
    · rw [List.getElem?_map] at hx
      cases hr : (List.range len)[i]? with
      | none => rw [hr] at hx; cases hx
      | some q =>
        rw [hr] at hx
        obtain ⟨hlt2, hq⟩ := List.getElem?_eq_some_iff.1 hr
        rw [List.getElem_range] at hq
        subst hq
        cases hx
        obtain ⟨hj, hju⟩ := List.getElem?_eq_some_iff.1 hu
        have hj0 : j = 0 := by simp [encU] at hj; omega
        subst hj0
        simp [encU] at hju
        subst hju
        have := (hf' i (by simpa using hlt2)).2
        simpa using this
    · obtain ⟨i, hi', rfl⟩ := List.mem_map.1 hv
      exact (hf' i (by simpa using hi')).1

set_option maxRecDepth 100000 in
theorem open_img {H : Type} {enc : TypeId × Value → H} {W : World} {base : Nat} {v : Value} {d : DataW H} {p : List MemPlace} (hv : Value.okWide Try.prog W .any base 24 v) (h : DataW.Trod enc Try.prog W 0 (fun _ => true) true 24 v d p) :
    ∃ (wd ht : Int) (q : Option Addr) (c : Nat) (S : List Int), v = IV wd ht (.slice q S.length c) ∧ Img W wd ht q c S := by
  obtain ⟨v0, v1, v2, y0, y1, y2, n, rfl, rfl, rfl, h0, h1, h2⟩ := open_agg3 Try.underlying24 (by kernel_rfl) iv_cells hv h
  obtain ⟨a, e0, -, wa⟩ := DataW.trod_int Try.underlying3 h0
  obtain ⟨b, e1, -, wb⟩ := DataW.trod_int Try.underlying3 h1
  simp at e0 e1
  subst e0 e1
  have hc : Cell.okWide Try.prog W .any base 22 v2 := by
    have h3 := hv
    unfold Value.okWide at h3
    rw [Try.underlying24] at h3
    obtain ⟨cs, hcs, -, ts, hts, -, hall⟩ := h3
    cases hcs
    have ht : Try.prog.cellTypes Try.prog.depth 24 = some [3, 3, 22] := by kernel_rfl
    rw [ht] at hts
    cases hts
    obtain ⟨u, hu, hok⟩ := hall 2 v2 rfl
    cases hu
    exact hok
  obtain ⟨q, c, S, rfl, hr, hu, hl, hm⟩ := open_u32s hc h2
  exact ⟨a, b, q, c, S, rfl, hr, hu, hl, hm, wf_bounds wa, wf_bounds wb⟩

end Go.Proofs.Ytajoipmchgabfaa
