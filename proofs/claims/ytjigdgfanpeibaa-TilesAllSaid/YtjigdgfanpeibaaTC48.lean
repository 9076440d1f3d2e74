/- Several texts in one, each with its own head. -/
import Derived.Test.YtjigdgfanpeibaaTC1
import Derived.ProofKit
import Derived.Lib.SmallJoins
import Derived.Test.YtjigdgfanpeibaaTC29
import Derived.Deep.Slices
/- From a walk that ends in true, and that changes nothing that was there, to what a statement says: whatever the arguments, they read behind the call as they read before. Nothing here speaks of one function. -/
namespace Go.Proofs.Ytjigdgfanpeibaa
open Go.ChangeShapes Go.WideShapes Go.ChangeAt Go.RowKit Go.Joins

theorem Try.own : ownKnob Try.prog.godebug = none := by kernel_rfl
theorem Try.laidOut : laidOutB Try.prog = true := by kernel_rfl

/-- Arguments read behind a call that keeps all that was there as they read before it. -/
theorem trodAll_below {H : Type} {enc : TypeId × Value → H} {P : Program} (hl : laidOutB P = true) {W W' : World} (hb : Below W.heap.size W W') :
    ∀ (ts : List TypeId) (vs : List Value) (ds : List (DataW H)) (ps : List MemPlace), (∀ t ∈ ts, P.readableRec t = true ∧ t < P.types.size) → DataW.TrodAll enc P W 0 (fun _ => true) true ts vs ds ps → (∀ x ∈ ps, x.block < W.heap.size) →
      DataW.TrodAll enc P W' 0 (fun b => decide (b < W.heap.size)) true ts vs ds ps
  | [], _, _, _, _, h, _ => by
    obtain ⟨rfl, rfl, rfl⟩ := trodAll_nil h
    exact trodAll_mk0
  | t :: ts, _, _, _, hr, h, hlt => by
    obtain ⟨v, vs', d, ds', p, q, rfl, rfl, rfl, h1, h2⟩ := trodAll_cons h
    have ht := hr t (by simp)
    exact trodAll_cons_mk (Below.trod hl ht.1 ht.2 h1 hb (fun x hx => hlt x (by simp [hx]))) (trodAll_below hl hb ts vs' ds' q (fun t' h' => hr t' (by simp [h'])) h2 (fun x hx => hlt x (by simp [hx])))

/-- What a statement asks behind the call, where the call answers true and keeps all that was there. -/
theorem law_post {H : Type} {enc : TypeId × Value → H} {f : Func} {s : ChangeSpec} (tb : TypeId) {W W' : World} {args : Array Value} {ds gs : List (DataW H)} {before : List MemPlace}
    (hread : ∀ t ∈ f.params.toList, Try.prog.readableRec t = true ∧ t < Try.prog.types.size) (hrt : f.resultTypes = #[tb]) (hub : Try.prog.underlying tb = some .bool) (hv : s.vars = [])
    (hW : DataW.Whole enc Try.prog f.params.toList s.vars false W args.toList ds gs before) (hr : (s.fn H (ds ++ gs)).results = [.lit (.bool true)]) (ha : (s.fn H (ds ++ gs)).args = ds) (hvs : (s.fn H (ds ++ gs)).vars = [])
    (hb : Below W.heap.size W W') : s.post enc Try.prog f false true false false W args (.bool true) W' := by
  have hlt := hW.lt
  have hW' := hW
  obtain ⟨p, q, hA, hV, rfl, hfz, hnd⟩ := hW
  rw [hv] at hV
  obtain ⟨rfl, rfl⟩ := trodVars_none hV
  refine ⟨_, _, _, [], p, [], hW', ?_, ?_, ?_, hb.frame _, fun h => by cases h⟩
  · rw [hr, hrt]
    exact trodAll_mk1 (shut_bool hub true)
  · rw [ha]
    exact trodAll_below Try.laidOut hb _ _ _ _ hread hA (fun x hx => by simpa using hlt x (by simp [hx]))
  · rw [hvs, hv]
    rfl

theorem trodAll_four_mine {H : Type} {enc : TypeId × Value → H} {P : Program} {w : World} {base : Nat} {spare : Nat → Bool} {held : Bool} {t0 t1 t2 t3 : TypeId} {args : Array Value} {ds : List (DataW H)} {ps : List MemPlace} (h : DataW.TrodAll enc P w base spare held [t0, t1, t2, t3] args.toList ds ps) :
    ∃ v0 v1 v2 v3 d0 d1 d2 d3 p0 p1 p2 p3, args = #[v0, v1, v2, v3] ∧ ds = [d0, d1, d2, d3] ∧ ps = p0 ++ (p1 ++ (p2 ++ p3)) ∧ DataW.Trod enc P w base spare held t0 v0 d0 p0 ∧ DataW.Trod enc P w base spare held t1 v1 d1 p1 ∧ DataW.Trod enc P w base spare held t2 v2 d2 p2 ∧ DataW.Trod enc P w base spare held t3 v3 d3 p3 := by
  obtain ⟨v0, vs0, d0, ds0, p0, q0, hargs, rfl, rfl, h0, r0⟩ := trodAll_cons h
  obtain ⟨v1, vs1, d1, ds1, p1, q1, rfl, rfl, rfl, h1, r1⟩ := trodAll_cons r0
  obtain ⟨v2, vs2, d2, ds2, p2, q2, rfl, rfl, rfl, h2, r2⟩ := trodAll_cons r1
  obtain ⟨v3, vs3, d3, ds3, p3, q3, rfl, rfl, rfl, h3, r3⟩ := trodAll_cons r2
  obtain ⟨rfl, rfl, rfl⟩ := trodAll_nil r3
  exact ⟨v0, v1, v2, v3, d0, d1, d2, d3, p0, p1, p2, p3, by cases args; simp_all, rfl, by simp, h0, h1, h2, h3⟩

theorem trodAll_five_mine {H : Type} {enc : TypeId × Value → H} {P : Program} {w : World} {base : Nat} {spare : Nat → Bool} {held : Bool} {t0 t1 t2 t3 t4 : TypeId} {args : Array Value} {ds : List (DataW H)} {ps : List MemPlace} (h : DataW.TrodAll enc P w base spare held [t0, t1, t2, t3, t4] args.toList ds ps) :
    ∃ v0 v1 v2 v3 v4 d0 d1 d2 d3 d4 p0 p1 p2 p3 p4, args = #[v0, v1, v2, v3, v4] ∧ ds = [d0, d1, d2, d3, d4] ∧ ps = p0 ++ (p1 ++ (p2 ++ (p3 ++ p4))) ∧ DataW.Trod enc P w base spare held t0 v0 d0 p0 ∧ DataW.Trod enc P w base spare held t1 v1 d1 p1 ∧ DataW.Trod enc P w base spare held t2 v2 d2 p2 ∧ DataW.Trod enc P w base spare held t3 v3 d3 p3 ∧ DataW.Trod enc P w base spare held t4 v4 d4 p4 := by
  obtain ⟨v0, vs0, d0, ds0, p0, q0, hargs, rfl, rfl, h0, r0⟩ := trodAll_cons h
  obtain ⟨v1, vs1, d1, ds1, p1, q1, rfl, rfl, rfl, h1, r1⟩ := trodAll_cons r0
  obtain ⟨v2, vs2, d2, ds2, p2, q2, rfl, rfl, rfl, h2, r2⟩ := trodAll_cons r1
  obtain ⟨v3, vs3, d3, ds3, p3, q3, rfl, rfl, rfl, h3, r3⟩ := trodAll_cons r2
  obtain ⟨v4, vs4, d4, ds4, p4, q4, rfl, rfl, rfl, h4, r4⟩ := trodAll_cons r3
  obtain ⟨rfl, rfl, rfl⟩ := trodAll_nil r4
  exact ⟨v0, v1, v2, v3, v4, d0, d1, d2, d3, d4, p0, p1, p2, p3, p4, by cases args; simp_all, rfl, by simp, h0, h1, h2, h3, h4⟩

theorem wf_bounds {n : Int} (h : (Lit.int .i64 n).wf = true) : -9223372036854775808 ≤ n ∧ n ≤ 9223372036854775807 := by
  have hm : IntKind.i64.min = -9223372036854775808 := by decide
  simpa [Lit.wf, hm] using h

theorem wf_u8b {n : Int} (h : (Lit.int .u8 n).wf = true) : 0 ≤ n ∧ n ≤ 255 := by
  have hm : IntKind.u8.min = 0 := by decide
  have hx : IntKind.u8.max = 255 := by decide
  simpa [Lit.wf, hm, hx] using h

theorem wf_u32b {n : Int} (h : (Lit.int .u32 n).wf = true) : 0 ≤ n ∧ n < 4294967296 := by
  have hm : IntKind.u32.min = 0 := by decide
  have hx : IntKind.u32.max = 4294967295 := by decide
  have := h
  simp [Lit.wf, hm, hx] at this
  omega

end Go.Proofs.Ytjigdgfanpeibaa

/- A rectangle that comes in as an argument: its four numbers. -/
namespace Go.Proofs.Ytjigdgfanpeibaa
open Go.ChangeShapes Go.WideShapes Go.ChangeAt Go.RowKit Go.Joins

theorem rc_cells : Try.prog.cellsOf 38 = 4 := by kernel_rfl

set_option maxRecDepth 100000 in
theorem open_rc {H : Type} {enc : TypeId × Value → H} {W : World} {base : Nat} {v : Value} {d : DataW H} {p : List MemPlace} (hv : Value.okWide Try.prog W .any base 38 v) (h : DataW.Trod enc Try.prog W 0 (fun _ => true) true 38 v d p) :
    ∃ r : Rc, v = RV r ∧ Fit r := by
  obtain ⟨v0, v1, v2, v3, y0, y1, y2, y3, n, rfl, rfl, rfl, h0, h1, h2, h3⟩ := open_agg4 Try.underlying38 (by kernel_rfl) rc_cells hv h
  obtain ⟨a, e0, rfl, wa⟩ := DataW.trod_int Try.underlying3 h0
  obtain ⟨b, e1, rfl, wb⟩ := DataW.trod_int Try.underlying3 h1
  obtain ⟨c, e2, rfl, wc⟩ := DataW.trod_int Try.underlying3 h2
  obtain ⟨e, e3, rfl, we⟩ := DataW.trod_int Try.underlying3 h3
  simp at e0 e1 e2 e3
  subst e0 e1 e2 e3
  exact ⟨⟨a, b, c, e⟩, rfl, (wf_bounds wa).2, (wf_bounds wb).2⟩

end Go.Proofs.Ytjigdgfanpeibaa

/- The statements' own copy of a list of rectangles. -/
namespace Go.Proofs.Ytjigdgfanpeibaa
open Go.RowKit

/-- A slice that reads so; nil has no room. -/
structure Rw (w : World) (v : Value) (xs : List Rc) : Prop where
  row : Row encR 4 w v xs
  nil : ∀ c, v = .slice none 0 c → c = 0

theorem Rw.below {w w1 : World} {v : Value} {xs : List Rc} (h : Rw w v xs) (hb : Below w.heap.size w w1) : Rw w1 v xs := ⟨h.row.below hb, h.nil⟩

theorem Rw.owned {w : World} {base : Nat} {v : Value} {xs : List Rc} (h : w.ownsRow base 38 4 v xs.length (flatR xs)) : Rw w v xs := ⟨owns_row' (enc := encR) (k := 4) (fun _ => rfl) h, owns_nil_cap h⟩

theorem Rw.src {w : World} {p : Option Addr} {n c : Nat} {xs : List Rc} (h : Rw w (.slice p n c) xs) : n = xs.length ∧ ((p = none ∧ n = 0 ∧ c = 0) ∨ ∃ ad, p = some ad ∧ ∀ j u, (flatR xs)[j]? = some u → w.cell? (ad.add j) = some u) := by
  obtain ⟨⟨p', c', e, h1, h2, h3⟩, hn⟩ := h
  cases e
  refine ⟨rfl, ?_⟩
  rcases h3 with ⟨rfl, rfl⟩ | ⟨b, off, rfl, h4, h5⟩
  · exact .inl ⟨rfl, rfl, hn _ rfl⟩
  · by_cases hx : xs = []
    · subst hx
      exact .inr ⟨_, rfl, fun j u hu => by simp [flatR] at hu⟩
    · obtain ⟨ad, e, hc⟩ := RowAt.srcR (xs := xs) (.inr ⟨b, off, rfl, h4, h5⟩) hx
      cases e
      exact .inr ⟨_, rfl, hc⟩

end Go.Proofs.Ytjigdgfanpeibaa

/- A slice of rectangles that comes in as an argument: the rectangles that it reads as. -/
namespace Go.Proofs.Ytjigdgfanpeibaa
open Go.ChangeShapes Go.WideShapes Go.ChangeAt Go.RowKit Go.Joins Go.Deep

set_option maxRecDepth 100000 in
theorem rc_at {H : Type} {enc : TypeId × Value → H} {W : World} {n : Nat} {a : Addr} {D : DataW H} {Pl : List MemPlace} {cs : List Value} (hc : W.cells? 0 a 4 = some cs) (ht : DataW.trod enc Try.prog W 0 (fun _ => true) true n 38 cs = some (D, Pl)) :
    ∃ r : Rc, Fit r ∧ ∀ j u, (encR r)[j]? = some u → W.cell? (a.add j) = some u := by
  obtain ⟨-, hl, hat⟩ := World.cells?_some hc
  obtain ⟨ys, n', -, -, -, hyl, hf⟩ := DataW.trod_struct Try.underlying38 ht
  have h0 := hf 0 _ rfl
  have h1 := hf 1 _ rfl
  have h2 := hf 2 _ rfl
  have h3 := hf 3 _ rfl
  match ys, hyl with
  | [y0, y1, y2, y3], _ =>
    match cs, hl with
    | [c0, c1, c2, c3], _ =>
      have hci : Try.prog.cellsOf 3 = 1 := by kernel_rfl
      obtain ⟨p, e0, -, wa⟩ := DataW.trod_int Try.underlying3 h0
      obtain ⟨q, e1, -, wb⟩ := DataW.trod_int Try.underlying3 h1
      obtain ⟨s, e2, -, -⟩ := DataW.trod_int Try.underlying3 h2
      obtain ⟨t, e3, -, -⟩ := DataW.trod_int Try.underlying3 h3
      simp [hci] at e0 e1 e2 e3
      subst e0 e1 e2 e3
      refine ⟨⟨p, q, s, t⟩, ⟨(wf_bounds wa).2, (wf_bounds wb).2⟩, fun j u hu => ?_⟩
      have hj : j < 4 := by
        have := (List.getElem?_eq_some_iff.1 hu).1
        simpa [encR] using this
      rw [hat j hj]
      exact hu

set_option maxRecDepth 100000 in
theorem open_rcs {H : Type} {enc : TypeId × Value → H} {W : World} {base : Nat} {v : Value} {d : DataW H} {p : List MemPlace} (hv : Value.okWide Try.prog W .any base 57 v) (h : DataW.Trod enc Try.prog W 0 (fun _ => true) true 57 v d p) :
    ∃ xs : List Rc, Rw W v xs ∧ ∀ r ∈ xs, Fit r := by
  obtain ⟨a0, len, cap, rfl⟩ := okWide_slice Try.underlying57 hv
  obtain ⟨fuel, hf⟩ := h
  rcases open_slice Try.underlying57 hf with ⟨hcs, -⟩ | ⟨a, len', cap', m, n, D, Pl, hcs, hb, hl, hm, hmm, hx, hi⟩
  · simp [Value.cells] at hcs
    obtain ⟨rfl, rfl, rfl⟩ := hcs
    exact ⟨[], ⟨⟨none, 0, rfl, Nat.le_refl _, by simp [maxLen], .inl ⟨rfl, rfl⟩⟩, fun c h => by cases h; rfl⟩, fun r h => by cases h⟩
  · simp [Value.cells] at hcs
    obtain ⟨rfl, rfl, rfl⟩ := hcs
    have hh : W.has Try.prog .any base a 38 cap := by
      have h1 := hv
      unfold Value.okWide at h1
      rw [Try.underlying57] at h1
      simp only [Cell.okWide, Try.underlying57, Cell.ok] at h1
      exact h1.2.2
    obtain ⟨-, hspot, row, cells, hsh, -⟩ := hh
    have hlt : a.block < W.heap.size := by
      unfold World.shape? at hsh
      cases hq : W.heap[a.block]? with
      | none => rw [hq] at hsh; cases hsh
      | some o => exact (Array.getElem?_eq_some_iff.1 hq).1
    obtain ⟨ab, ao, asp⟩ := a
    dsimp only at hspot hlt
    subst hspot
    rw [rc_cells] at hi
    have H : ∀ i, i < len → ∃ r : Rc, Fit r ∧ ∀ j u, (encR r)[j]? = some u → W.cell? ((⟨ab, ao, none⟩ : Addr).add (i * 4) |>.add j) = some u := fun i him => by
      obtain ⟨cs', hc, ht⟩ := hi i (by rw [hmm]; simp; omega)
      exact rc_at hc ht
    obtain ⟨f, hf'⟩ : ∃ f : Nat → Rc, ∀ i, i < len → Fit (f i) ∧ ∀ j u, (encR (f i))[j]? = some u → W.cell? ((⟨ab, ao, none⟩ : Addr).add (i * 4) |>.add j) = some u := by
      classical
      refine ⟨fun i => if h : i < len then Classical.choose (H i h) else default, fun i him => ?_⟩
      simp only [him, dif_pos]
      exact Classical.choose_spec (H i him)
    have hln : ((List.range len).map f).length = len := by simp
    refine ⟨(List.range len).map f, ⟨⟨_, cap, by rw [hln], by rw [hln]; exact hl, hm, .inr ⟨_, _, rfl, hlt, fun i x hx j u hu => ?_⟩⟩, fun c h => by cases h⟩, fun r hr => ?_⟩
    · rw [List.getElem?_map] at hx
      cases hr : (List.range len)[i]? with
      | none => rw [hr] at hx; cases hx
      | some q =>
        rw [hr] at hx
        obtain ⟨hlt2, hq⟩ := List.getElem?_eq_some_iff.1 hr
        rw [List.getElem_range] at hq
        subst hq
        cases hx
        have h4 := (hf' i (by simpa using hlt2)).2 j u hu
        rw [Addr.add_lit, Addr.add_lit] at h4
        exact h4
    · obtain ⟨i, hi', rfl⟩ := List.mem_map.1 hr
      exact (hf' i (by simpa using hi')).1

end Go.Proofs.Ytjigdgfanpeibaa
