/- Several texts in one, each with its own head. -/
import Derived.Test.YtebfdoipogjpnaaGreatQd1
import Derived.ProofKit
import Derived.Lib.SmallJoins
import Derived.Test.YtebfdoipogjpnaaGreatQd4
import Derived.Deep.Slices
import Derived.Test.YtebfdoipogjpnaaGreatQd13
import Derived.Test.YtebfdoipogjpnaaGreatQd45
/- From a walk that ends in true, and that changes nothing that was there, to what a statement says: whatever the arguments, they read behind the call as they read before. Nothing here speaks of one function. -/
namespace Go.Proofs.YtebfdoipogjpnaaGreat
open Go.ChangeShapes Go.WideShapes Go.ChangeAt Go.RowKit Go.Joins

theorem Tryz.own : ownKnob Tryz.prog.godebug = none := by kernel_rfl
theorem Tryz.laidOut : laidOutB Tryz.prog = true := by kernel_rfl

theorem trodAll_below {H : Type} {enc : TypeId × Value → H} {P : Program} (hl : laidOutB P = true) {W W' : World} (hb : Below W.heap.size W W') :
    ∀ (ts : List TypeId) (vs : List Value) (ds : List (DataW H)) (ps : List MemPlace), (∀ t ∈ ts, P.readableRec t = true ∧ t < P.types.size) → DataW.TrodAll enc P W 0 (fun _ => true) true ts vs ds ps → (∀ x ∈ ps, x.block < W.heap.size) →
      DataW.TrodAll enc P W' 0 (fun b => decide (b < W.heap.size)) true ts vs ds ps
  | [], _, _, _, _, h, _ => by
    obtain ⟨rfl, rfl, rfl⟩ := trodAll_nil h
    exact trodAll_mk0
  | t :: ts, _, _, _, hr, h, hlt => by
    obtain ⟨v, vs', d, ds', p, q, rfl, rfl, rfl, h1, h2⟩ := trodAll_cons h
    have ht := hr t (by simp)
    exact trodAll_cons_mk (Below.trod hl ht.1 ht.2 h1 hb (fun x hx => hlt x (by simp [hx]))) (trodAll_below hl hb ts vs' ds' q (fun t' h' => hr t' (by simp [h'])) h2 (fun x hx => hlt x (by simp [hx])))

theorem law_post {H : Type} {enc : TypeId × Value → H} {f : Func} {s : ChangeSpec} (tb : TypeId) {W W' : World} {args : Array Value} {ds gs : List (DataW H)} {before : List MemPlace}
    (hread : ∀ t ∈ f.params.toList, Tryz.prog.readableRec t = true ∧ t < Tryz.prog.types.size) (hrt : f.resultTypes = #[tb]) (hub : Tryz.prog.underlying tb = some .bool) (hv : s.vars = [])
    (hW : DataW.Whole enc Tryz.prog f.params.toList s.vars false W args.toList ds gs before) (hr : (s.fn H (ds ++ gs)).results = [.lit (.bool true)]) (ha : (s.fn H (ds ++ gs)).args = ds) (hvs : (s.fn H (ds ++ gs)).vars = [])
    (hb : Below W.heap.size W W') : s.post enc Tryz.prog f false true false false W args (.bool true) W' := by
  have hlt := hW.lt
  have hW' := hW
  obtain ⟨p, q, hA, hV, rfl, hfz, hnd⟩ := hW
  rw [hv] at hV
  obtain ⟨rfl, rfl⟩ := trodVars_none hV
  refine ⟨_, _, _, [], p, [], hW', ?_, ?_, ?_, hb.frame _, fun h => by cases h⟩
  · rw [hr, hrt]
    exact trodAll_mk1 (shut_bool hub true)
  · rw [ha]
    exact trodAll_below Tryz.laidOut hb _ _ _ _ hread hA (fun x hx => by simpa using hlt x (by simp [hx]))
  · rw [hvs, hv]
    rfl

theorem trodAll_four_mine {H : Type} {enc : TypeId × Value → H} {P : Program} {w : World} {base : Nat} {spare : Nat → Bool} {held : Bool} {t0 t1 t2 t3 : TypeId} {args : Array Value} {ds : List (DataW H)} {ps : List MemPlace} (h : DataW.TrodAll enc P w base spare held [t0, t1, t2, t3] args.toList ds ps) :
    ∃ v0 v1 v2 v3 d0 d1 d2 d3 p0 p1 p2 p3, args = #[v0, v1, v2, v3] ∧ ds = [d0, d1, d2, d3] ∧ ps = p0 ++ (p1 ++ (p2 ++ p3)) ∧ DataW.Trod enc P w base spare held t0 v0 d0 p0 ∧ DataW.Trod enc P w base spare held t1 v1 d1 p1 ∧ DataW.Trod enc P w base spare held t2 v2 d2 p2 ∧ DataW.Trod enc P w base spare held t3 v3 d3 p3 := by
  obtain ⟨v0, vs0, d0, ds0, p0, q0, hargs, rfl, rfl, h0, r0⟩ := trodAll_cons h
  obtain ⟨v1, vs1, d1, ds1, p1, q1, rfl, rfl, rfl, h1, r1⟩ := trodAll_cons r0
  obtain ⟨v2, vs2, d2, ds2, p2, q2, rfl, rfl, rfl, h2, r2⟩ := trodAll_cons r1
  obtain ⟨v3, vs3, d3, ds3, p3, q3, rfl, rfl, rfl, h3, r3⟩ := trodAll_cons r2
  obtain ⟨rfl, rfl, rfl⟩ := trodAll_nil r3
  exact ⟨v0, v1, v2, v3, d0, d1, d2, d3, p0, p1, p2, p3, by cases args; simp_all, rfl, by simp, h0, h1, h2, h3⟩

theorem trodAll_five_mine {H : Type} {enc : TypeId × Value → H} {P : Program} {w : World} {base : Nat} {spare : Nat → Bool} {held : Bool} {t0 t1 t2 t3 t4 : TypeId} {args : Array Value} {ds : List (DataW H)} {ps : List MemPlace} (h : DataW.TrodAll enc P w base spare held [t0, t1, t2, t3, t4] args.toList ds ps) :
    ∃ v0 v1 v2 v3 v4 d0 d1 d2 d3 d4 p0 p1 p2 p3 p4, args = #[v0, v1, v2, v3, v4] ∧ ds = [d0, d1, d2, d3, d4] ∧ ps = p0 ++ (p1 ++ (p2 ++ (p3 ++ p4))) ∧ DataW.Trod enc P w base spare held t0 v0 d0 p0 ∧ DataW.Trod enc P w base spare held t1 v1 d1 p1 ∧ DataW.Trod enc P w base spare held t2 v2 d2 p2 ∧ DataW.Trod enc P w base spare held t3 v3 d3 p3 ∧ DataW.Trod enc P w base spare held t4 v4 d4 p4 := by
  obtain ⟨v0, vs0, d0, ds0, p0, q0, hargs, rfl, rfl, h0, r0⟩ := trodAll_cons h
  obtain ⟨v1, vs1, d1, ds1, p1, q1, rfl, rfl, rfl, h1, r1⟩ := trodAll_cons r0
  obtain ⟨v2, vs2, d2, ds2, p2, q2, rfl, rfl, rfl, h2, r2⟩ := trodAll_cons r1
  obtain ⟨v3, vs3, d3, ds3, p3, q3, rfl, rfl, rfl, h3, r3⟩ := trodAll_cons r2
  obtain ⟨v4, vs4, d4, ds4, p4, q4, rfl, rfl, rfl, h4, r4⟩ := trodAll_cons r3
  obtain ⟨rfl, rfl, rfl⟩ := trodAll_nil r4
  exact ⟨v0, v1, v2, v3, v4, d0, d1, d2, d3, d4, p0, p1, p2, p3, p4, by cases args; simp_all, rfl, by simp, h0, h1, h2, h3, h4⟩

theorem wf_bounds {n : Int} (h : (Lit.int .i64 n).wf = true) : -9223372036854775808 ≤ n ∧ n ≤ 9223372036854775807 := by
  have hm : IntKind.i64.min = -9223372036854775808 := by decide
  simpa [Lit.wf, hm] using h

theorem wf_u8b {n : Int} (h : (Lit.int .u8 n).wf = true) : 0 ≤ n ∧ n ≤ 255 := by
  have hm : IntKind.u8.min = 0 := by decide
  have hx : IntKind.u8.max = 255 := by decide
  simpa [Lit.wf, hm, hx] using h

theorem wf_u32b {n : Int} (h : (Lit.int .u32 n).wf = true) : 0 ≤ n ∧ n < 4294967296 := by
  have hm : IntKind.u32.min = 0 := by decide
  have hx : IntKind.u32.max = 4294967295 := by decide
  have := h
  simp [Lit.wf, hm, hx] at this
  omega

end Go.Proofs.YtebfdoipogjpnaaGreat

/- A slice that comes in as an argument, of elements of any kind that can be opened: what it reads as. -/
namespace Go.Proofs.YtebfdoipogjpnaaGreat
open Go.ChangeShapes Go.WideShapes Go.ChangeAt Go.RowKit Go.Joins Go.Deep

set_option maxRecDepth 100000 in
theorem open_rows {α : Type} [Inhabited α] {ec : α → List Value} {k : Nat} {Good : α → Prop} {H : Type} {enc : TypeId × Value → H} {W : World} {base : Nat} {v : Value} {d : DataW H} {p : List MemPlace} {t e : TypeId}
    (ht : Tryz.prog.underlying t = some (.slice e)) (hk : Tryz.prog.cellsOf e = k)
    (hat : ∀ (n : Nat) (a : Addr) (D : DataW H) (Pl : List MemPlace) (cs : List Value), W.cells? 0 a k = some cs → DataW.trod enc Tryz.prog W 0 (fun _ => true) true n e cs = some (D, Pl) → ∃ x : α, Good x ∧ ∀ j u, (ec x)[j]? = some u → W.cell? (a.add j) = some u)
    (hv : Value.okWide Tryz.prog W .any base t v) (h : DataW.Trod enc Tryz.prog W 0 (fun _ => true) true t v d p) :
    ∃ xs : List α, RwG ec k W v xs ∧ ∀ x ∈ xs, Good x := by
  obtain ⟨a0, len, cap, rfl⟩ := okWide_slice ht hv
  obtain ⟨fuel, hf⟩ := h
  rcases open_slice ht hf with ⟨hcs, -⟩ | ⟨a, len', cap', m, n, D, Pl, hcs, hb, hl, hm, hmm, hx, hi⟩
  · simp [Value.cells] at hcs
    obtain ⟨rfl, rfl, rfl⟩ := hcs
    exact ⟨[], ⟨⟨none, 0, rfl, Nat.le_refl _, by simp [maxLen], .inl ⟨rfl, rfl⟩⟩, fun c h => by cases h; rfl⟩, fun r h => by cases h⟩
  · simp [Value.cells] at hcs
    obtain ⟨rfl, rfl, rfl⟩ := hcs
    have hh : W.has Tryz.prog .any base a e cap := by
      have h1 := hv
      unfold Value.okWide at h1
      rw [ht] at h1
      simp only [Cell.okWide, ht, Cell.ok] at h1
      exact h1.2.2
    obtain ⟨-, hspot, row, cells, hsh, -⟩ := hh
    have hlt : a.block < W.heap.size := by
      unfold World.shape? at hsh
      cases hq : W.heap[a.block]? with
      | none => rw [hq] at hsh; cases hsh
      | some o => exact (Array.getElem?_eq_some_iff.1 hq).1
    obtain ⟨ab, ao, asp⟩ := a
    dsimp only at hspot hlt
    subst hspot
    rw [hk] at hi
    have H : ∀ i, i < len → ∃ r : α, Good r ∧ ∀ j u, (ec r)[j]? = some u → W.cell? ((⟨ab, ao, none⟩ : Addr).add (i * k) |>.add j) = some u := fun i him => by
      obtain ⟨cs', hc, ht⟩ := hi i (by rw [hmm]; simp; omega)
      exact hat _ _ _ _ _ hc ht
    obtain ⟨f, hf'⟩ : ∃ f : Nat → α, ∀ i, i < len → Good (f i) ∧ ∀ j u, (ec (f i))[j]? = some u → W.cell? ((⟨ab, ao, none⟩ : Addr).add (i * k) |>.add j) = some u := by
      classical
      refine ⟨fun i => if h : i < len then Classical.choose (H i h) else default, fun i him => ?_⟩
      simp only [him, dif_pos]
      exact Classical.choose_spec (H i him)
    have hln : ((List.range len).map f).length = len := by simp
    refine ⟨(List.range len).map f, ⟨⟨_, cap, by rw [hln], by rw [hln]; exact hl, hm, .inr ⟨_, _, rfl, hlt, fun i x hx j u hu => ?_⟩⟩, fun c h => by cases h⟩, fun r hr => ?_⟩
    · rw [List.getElem?_map] at hx
      cases hr : (List.range len)[i]? with
      | none => rw [hr] at hx; cases hx
      | some q =>
        rw [hr] at hx
        obtain ⟨hlt2, hq⟩ := List.getElem?_eq_some_iff.1 hr
        rw [List.getElem_range] at hq
        subst hq
        cases hx
        have h4 := (hf' i (by simpa using hlt2)).2 j u hu
        rw [Addr.add_lit, Addr.add_lit] at h4
        exact h4
    · obtain ⟨i, hi', rfl⟩ := List.mem_map.1 hr
      exact (hf' i (by simpa using hi')).1

end Go.Proofs.YtebfdoipogjpnaaGreat

/- Slices of ints, bytes and uint16 that come in as arguments. -/
namespace Go.Proofs.YtebfdoipogjpnaaGreat
open Go.ChangeShapes Go.WideShapes Go.ChangeAt Go.RowKit Go.Joins Go.Deep

set_option maxRecDepth 100000 in
theorem int_at {H : Type} {enc : TypeId × Value → H} {W : World} (n : Nat) (a : Addr) (D : DataW H) (Pl : List MemPlace) (cs : List Value) (hc : W.cells? 0 a 1 = some cs) (ht : DataW.trod enc Tryz.prog W 0 (fun _ => true) true n 3 cs = some (D, Pl)) :
    ∃ x : Int, True ∧ ∀ j u, (encZ x)[j]? = some u → W.cell? (a.add j) = some u := by
  obtain ⟨-, hl, hat⟩ := World.cells?_some hc
  match cs, hl with
  | [c0], _ =>
    obtain ⟨x, e0, -, wf⟩ := DataW.trod_int Tryz.underlying3 ht
    simp at e0
    subst e0
    refine ⟨x, trivial, fun j u hu => ?_⟩
    have hj : j < 1 := by
      have := (List.getElem?_eq_some_iff.1 hu).1
      simpa [encZ] using this
    rw [hat j hj]
    exact hu

set_option maxRecDepth 100000 in
theorem open_ints {H : Type} {enc : TypeId × Value → H} {W : World} {base : Nat} {v : Value} {d : DataW H} {p : List MemPlace} (hv : Value.okWide Tryz.prog W .any base 44 v) (h : DataW.Trod enc Tryz.prog W 0 (fun _ => true) true 44 v d p) :
    ∃ xs : List Int, RwG encZ 1 W v xs := by
  obtain ⟨xs, h1, -⟩ := open_rows Tryz.underlying44 (by kernel_rfl) int_at hv h
  exact ⟨xs, h1⟩

set_option maxRecDepth 100000 in
theorem byte_atH {H : Type} {enc : TypeId × Value → H} {W : World} (n : Nat) (a : Addr) (D : DataW H) (Pl : List MemPlace) (cs : List Value) (hc : W.cells? 0 a 1 = some cs) (ht : DataW.trod enc Tryz.prog W 0 (fun _ => true) true n 5 cs = some (D, Pl)) :
    ∃ x : Nat, x < 256 ∧ ∀ j u, (enc8 x)[j]? = some u → W.cell? (a.add j) = some u := by
  obtain ⟨-, hl, hat⟩ := World.cells?_some hc
  match cs, hl with
  | [c0], _ =>
    obtain ⟨x, e0, -, wf⟩ := DataW.trod_int Tryz.underlying5 ht
    simp at e0
    subst e0
    have hb := wf_u8b wf
    obtain ⟨m, rfl⟩ := Int.eq_ofNat_of_zero_le hb.1
    refine ⟨m, by omega, fun j u hu => ?_⟩
    have hj : j < 1 := by
      have := (List.getElem?_eq_some_iff.1 hu).1
      simpa [enc8] using this
    rw [hat j hj]
    exact hu

set_option maxRecDepth 100000 in
theorem open_bytesH {H : Type} {enc : TypeId × Value → H} {W : World} {base : Nat} {v : Value} {d : DataW H} {p : List MemPlace} (hv : Value.okWide Tryz.prog W .any base 22 v) (h : DataW.Trod enc Tryz.prog W 0 (fun _ => true) true 22 v d p) :
    ∃ xs : List Nat, Rw8 W v xs ∧ ∀ x ∈ xs, x < 256 :=
  open_rows Tryz.underlying22 (by kernel_rfl) byte_atH hv h

def enc16 (b : Nat) : List Value := [.int .u16 (b : Int)]
theorem enc16_len (b : Nat) : (enc16 b).length = 1 := rfl

theorem wf_u16b {x : Int} (h : (Lit.int .u16 x).wf = true) : 0 ≤ x ∧ x ≤ 65535 := by
  have hm : IntKind.u16.min = 0 := by decide
  have hx : IntKind.u16.max = 65535 := by decide
  simpa [Lit.wf, hm, hx] using h

set_option maxRecDepth 100000 in
theorem u16_at {H : Type} {enc : TypeId × Value → H} {W : World} (n : Nat) (a : Addr) (D : DataW H) (Pl : List MemPlace) (cs : List Value) (hc : W.cells? 0 a 1 = some cs) (ht : DataW.trod enc Tryz.prog W 0 (fun _ => true) true n 33 cs = some (D, Pl)) :
    ∃ x : Nat, x < 65536 ∧ ∀ j u, (enc16 x)[j]? = some u → W.cell? (a.add j) = some u := by
  obtain ⟨-, hl, hat⟩ := World.cells?_some hc
  match cs, hl with
  | [c0], _ =>
    obtain ⟨x, e0, -, wf⟩ := DataW.trod_int Tryz.underlying33 ht
    simp at e0
    subst e0
    have hb := wf_u16b wf
    obtain ⟨m, rfl⟩ := Int.eq_ofNat_of_zero_le hb.1
    refine ⟨m, by omega, fun j u hu => ?_⟩
    have hj : j < 1 := by
      have := (List.getElem?_eq_some_iff.1 hu).1
      simpa [enc16] using this
    rw [hat j hj]
    exact hu

set_option maxRecDepth 100000 in
theorem open_u16s {H : Type} {enc : TypeId × Value → H} {W : World} {base : Nat} {v : Value} {d : DataW H} {p : List MemPlace} (hv : Value.okWide Tryz.prog W .any base 100 v) (h : DataW.Trod enc Tryz.prog W 0 (fun _ => true) true 100 v d p) :
    ∃ xs : List Nat, RwG enc16 1 W v xs ∧ ∀ x ∈ xs, x < 65536 :=
  open_rows Tryz.underlying100 (by kernel_rfl) u16_at hv h

end Go.Proofs.YtebfdoipogjpnaaGreat

/- deflate, plainly: what a row of one byte takes in the fixed form. -/
namespace Go.Proofs.YtebfdoipogjpnaaGreat
open Go.RowKit

def costF (ts : List Tk) : Nat := szP ((ts.flatMap paT).flatMap (plP [fixA, fixD]))
theorem costF_cons (t : Tk) (ts : List Tk) : costF (t :: ts) = szP ((paT t).flatMap (plP [fixA, fixD])) + costF ts := by
  unfold costF
  rw [List.flatMap_cons, List.flatMap_append, szP_app]
theorem fixP_cost (ts : List Tk) : szP (fixP ts) = 10 + costF ts := by
  have e : szP (plP [fixA, fixD] ⟨0, 256, 0, 0⟩) = 7 := by decide +kernel
  have e2 : ([⟨0, 256, 0, 0⟩] : List Pa).flatMap (plP [fixA, fixD]) = plP [fixA, fixD] ⟨0, 256, 0, 0⟩ := by simp
  unfold fixP costF pasT
  rw [szP_app, List.flatMap_append, szP_app, e2, e]
  simp only [szP]; omega
end Go.Proofs.YtebfdoipogjpnaaGreat
