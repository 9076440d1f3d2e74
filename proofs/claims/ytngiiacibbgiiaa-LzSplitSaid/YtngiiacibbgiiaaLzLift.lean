/- Slices of bytes and of tokens that come in as arguments. -/
import Derived.Test.YtngiiacibbgiiaaSliceLift
import Derived.Test.YtngiiacibbgiiaaLzC
namespace Go.Proofs.Ytngiiacibbgiiaa
open Go.ChangeShapes Go.WideShapes Go.ChangeAt Go.RowKit Go.Joins Go.Deep

set_option maxRecDepth 100000 in
theorem byte_atZ {H : Type} {enc : TypeId × Value → H} {W : World} (n : Nat) (a : Addr) (D : DataW H) (Pl : List MemPlace) (cs : List Value) (hc : W.cells? 0 a 1 = some cs) (ht : DataW.trod enc Try.prog W 0 (fun _ => true) true n 5 cs = some (D, Pl)) :
    ∃ x : Nat, x < 256 ∧ ∀ j u, (enc8 x)[j]? = some u → W.cell? (a.add j) = some u := by
  obtain ⟨-, hl, hat⟩ := World.cells?_some hc
  match cs, hl with
  | [c0], _ =>
    obtain ⟨x, e0, -, wf⟩ := DataW.trod_int Try.underlying5 ht
    simp at e0
    subst e0
    have hb := wf_u8b wf
    obtain ⟨m, rfl⟩ := Int.eq_ofNat_of_zero_le hb.1
    refine ⟨m, by omega, fun j u hu => ?_⟩
    have hj : j < 1 := by
      have := (List.getElem?_eq_some_iff.1 hu).1
      simpa [enc8] using this
    rw [hat j hj]
    exact hu

set_option maxRecDepth 100000 in
theorem open_bytesZ {H : Type} {enc : TypeId × Value → H} {W : World} {base : Nat} {v : Value} {d : DataW H} {p : List MemPlace} (hv : Value.okWide Try.prog W .any base 22 v) (h : DataW.Trod enc Try.prog W 0 (fun _ => true) true 22 v d p) :
    ∃ xs : List Nat, Rw8 W v xs ∧ ∀ x ∈ xs, x < 256 :=
  open_rows Try.underlying22 (by kernel_rfl) byte_atZ hv h

theorem wf_u16z {x : Int} (h : (Lit.int .u16 x).wf = true) : 0 ≤ x ∧ x ≤ 65535 := by
  have hm : IntKind.u16.min = 0 := by decide
  have hx : IntKind.u16.max = 65535 := by decide
  simpa [Lit.wf, hm, hx] using h

/-- A token that may stand in memory. -/
def GoodT (t : Tk) : Prop := t.b < 256 ∧ (-9223372036854775808 ≤ t.n ∧ t.n ≤ 9223372036854775807) ∧ (-9223372036854775808 ≤ t.d ∧ t.d ≤ 9223372036854775807)
instance : Inhabited Tk := ⟨⟨0, 0, 0⟩⟩
set_option maxRecDepth 100000 in
theorem tok_at {H : Type} {enc : TypeId × Value → H} {W : World} (n : Nat) (a : Addr) (D : DataW H) (Pl : List MemPlace) (cs : List Value) (hc : W.cells? 0 a 3 = some cs) (ht : DataW.trod enc Try.prog W 0 (fun _ => true) true n 26 cs = some (D, Pl)) :
    ∃ t : Tk, GoodT t ∧ ∀ j u, (encT t)[j]? = some u → W.cell? (a.add j) = some u := by
  obtain ⟨-, hl, hat⟩ := World.cells?_some hc
  obtain ⟨ys, n', -, -, -, hyl, hf⟩ := DataW.trod_struct Try.underlying26 ht
  have h0 := hf 0 _ rfl
  have h1 := hf 1 _ rfl
  have h2 := hf 2 _ rfl
  match ys, hyl with
  | [y0, y1, y2], _ =>
    match cs, hl with
    | [c0, c1, c2], _ =>
      have hci : Try.prog.cellsOf 3 = 1 := by kernel_rfl
      have hcb : Try.prog.cellsOf 5 = 1 := by kernel_rfl
      obtain ⟨p, e0, -, wa⟩ := DataW.trod_int Try.underlying5 h0
      obtain ⟨q, e1, -, wb⟩ := DataW.trod_int Try.underlying3 h1
      obtain ⟨s, e2, -, wc⟩ := DataW.trod_int Try.underlying3 h2
      simp [hci, hcb] at e0 e1 e2
      subst e0 e1 e2
      have hb := wf_u8b wa
      obtain ⟨m, rfl⟩ := Int.eq_ofNat_of_zero_le hb.1
      refine ⟨⟨m, q, s⟩, ⟨by show m < 256; omega, wf_bounds wb, wf_bounds wc⟩, fun j u hu => ?_⟩
      have hj : j < 3 := by
        have := (List.getElem?_eq_some_iff.1 hu).1
        simpa [encT] using this
      rw [hat j hj]
      exact hu

set_option maxRecDepth 100000 in
theorem open_toks {H : Type} {enc : TypeId × Value → H} {W : World} {base : Nat} {v : Value} {d : DataW H} {p : List MemPlace} (hv : Value.okWide Try.prog W .any base 23 v) (h : DataW.Trod enc Try.prog W 0 (fun _ => true) true 23 v d p) :
    ∃ ts : List Tk, RwG encT 3 W v ts ∧ ∀ t ∈ ts, GoodT t :=
  open_rows Try.underlying23 (by kernel_rfl) tok_at hv h

end Go.Proofs.Ytngiiacibbgiiaa
