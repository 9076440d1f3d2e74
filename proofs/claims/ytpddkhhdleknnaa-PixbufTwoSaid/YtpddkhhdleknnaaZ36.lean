/- Several texts in one, each with its own head. -/
import Derived.Test.YtpddkhhdleknnaaZ1
import Derived.ProofKit
import Derived.Lib.SmallJoins
import Derived.Test.YtpddkhhdleknnaaZ2
import Derived.Test.YtpddkhhdleknnaaZ13
import Derived.Deep.Slices
import Derived.Test.YtpddkhhdleknnaaZ4
/- From a walk that ends in true, and that changes nothing that was there, to what a statement says: whatever the arguments, they read behind the call as they read before. Nothing here speaks of one function. -/
namespace Go.Proofs.Ytpddkhhdleknnaa
open Go.ChangeShapes Go.WideShapes Go.ChangeAt Go.RowKit Go.Joins

theorem Try.own : ownKnob Try.prog.godebug = none := by kernel_rfl
theorem Try.laidOut : laidOutB Try.prog = true := by kernel_rfl

/-- Arguments read behind a call that keeps all that was there as they read before it. -/
theorem trodAll_below {H : Type} {enc : TypeId × Value → H} {P : Program} (hl : laidOutB P = true) {W W' : World} (hb : Below W.heap.size W W') :
    ∀ (ts : List TypeId) (vs : List Value) (ds : List (DataW H)) (ps : List MemPlace), (∀ t ∈ ts, P.readableRec t = true ∧ t < P.types.size) → DataW.TrodAll enc P W 0 (fun _ => true) true ts vs ds ps → (∀ x ∈ ps, x.block < W.heap.size) →
      DataW.TrodAll enc P W' 0 (fun b => decide (b < W.heap.size)) true ts vs ds ps
  | [], _, _, _, _, h, _ => by
    obtain ⟨rfl, rfl, rfl⟩ := trodAll_nil h
    exact trodAll_mk0
  | t :: ts, _, _, _, hr, h, hlt => by
    obtain ⟨v, vs', d, ds', p, q, rfl, rfl, rfl, h1, h2⟩ := trodAll_cons h
    have ht := hr t (by simp)
    exact trodAll_cons_mk (Below.trod hl ht.1 ht.2 h1 hb (fun x hx => hlt x (by simp [hx]))) (trodAll_below hl hb ts vs' ds' q (fun t' h' => hr t' (by simp [h'])) h2 (fun x hx => hlt x (by simp [hx])))

/-- What a statement asks behind the call, where the call answers true and keeps all that was there. -/
theorem law_post {H : Type} {enc : TypeId × Value → H} {f : Func} {s : ChangeSpec} (tb : TypeId) {W W' : World} {args : Array Value} {ds gs : List (DataW H)} {before : List MemPlace}
    (hread : ∀ t ∈ f.params.toList, Try.prog.readableRec t = true ∧ t < Try.prog.types.size) (hrt : f.resultTypes = #[tb]) (hub : Try.prog.underlying tb = some .bool) (hv : s.vars = [])
    (hW : DataW.Whole enc Try.prog f.params.toList s.vars false W args.toList ds gs before) (hr : (s.fn H (ds ++ gs)).results = [.lit (.bool true)]) (ha : (s.fn H (ds ++ gs)).args = ds) (hvs : (s.fn H (ds ++ gs)).vars = [])
    (hb : Below W.heap.size W W') : s.post enc Try.prog f false true false false W args (.bool true) W' := by
  have hlt := hW.lt
  have hW' := hW
  obtain ⟨p, q, hA, hV, rfl, hfz, hnd⟩ := hW
  rw [hv] at hV
  obtain ⟨rfl, rfl⟩ := trodVars_none hV
  refine ⟨_, _, _, [], p, [], hW', ?_, ?_, ?_, hb.frame _, fun h => by cases h⟩
  · rw [hr, hrt]
    exact trodAll_mk1 (shut_bool hub true)
  · rw [ha]
    exact trodAll_below Try.laidOut hb _ _ _ _ hread hA (fun x hx => by simpa using hlt x (by simp [hx]))
  · rw [hvs, hv]
    rfl

theorem trodAll_four_mine {H : Type} {enc : TypeId × Value → H} {P : Program} {w : World} {base : Nat} {spare : Nat → Bool} {held : Bool} {t0 t1 t2 t3 : TypeId} {args : Array Value} {ds : List (DataW H)} {ps : List MemPlace} (h : DataW.TrodAll enc P w base spare held [t0, t1, t2, t3] args.toList ds ps) :
    ∃ v0 v1 v2 v3 d0 d1 d2 d3 p0 p1 p2 p3, args = #[v0, v1, v2, v3] ∧ ds = [d0, d1, d2, d3] ∧ ps = p0 ++ (p1 ++ (p2 ++ p3)) ∧ DataW.Trod enc P w base spare held t0 v0 d0 p0 ∧ DataW.Trod enc P w base spare held t1 v1 d1 p1 ∧ DataW.Trod enc P w base spare held t2 v2 d2 p2 ∧ DataW.Trod enc P w base spare held t3 v3 d3 p3 := by
  obtain ⟨v0, vs0, d0, ds0, p0, q0, hargs, rfl, rfl, h0, r0⟩ := trodAll_cons h
  obtain ⟨v1, vs1, d1, ds1, p1, q1, rfl, rfl, rfl, h1, r1⟩ := trodAll_cons r0
  obtain ⟨v2, vs2, d2, ds2, p2, q2, rfl, rfl, rfl, h2, r2⟩ := trodAll_cons r1
  obtain ⟨v3, vs3, d3, ds3, p3, q3, rfl, rfl, rfl, h3, r3⟩ := trodAll_cons r2
  obtain ⟨rfl, rfl, rfl⟩ := trodAll_nil r3
  exact ⟨v0, v1, v2, v3, d0, d1, d2, d3, p0, p1, p2, p3, by cases args; simp_all, rfl, by simp, h0, h1, h2, h3⟩

theorem trodAll_five_mine {H : Type} {enc : TypeId × Value → H} {P : Program} {w : World} {base : Nat} {spare : Nat → Bool} {held : Bool} {t0 t1 t2 t3 t4 : TypeId} {args : Array Value} {ds : List (DataW H)} {ps : List MemPlace} (h : DataW.TrodAll enc P w base spare held [t0, t1, t2, t3, t4] args.toList ds ps) :
    ∃ v0 v1 v2 v3 v4 d0 d1 d2 d3 d4 p0 p1 p2 p3 p4, args = #[v0, v1, v2, v3, v4] ∧ ds = [d0, d1, d2, d3, d4] ∧ ps = p0 ++ (p1 ++ (p2 ++ (p3 ++ p4))) ∧ DataW.Trod enc P w base spare held t0 v0 d0 p0 ∧ DataW.Trod enc P w base spare held t1 v1 d1 p1 ∧ DataW.Trod enc P w base spare held t2 v2 d2 p2 ∧ DataW.Trod enc P w base spare held t3 v3 d3 p3 ∧ DataW.Trod enc P w base spare held t4 v4 d4 p4 := by
  obtain ⟨v0, vs0, d0, ds0, p0, q0, hargs, rfl, rfl, h0, r0⟩ := trodAll_cons h
  obtain ⟨v1, vs1, d1, ds1, p1, q1, rfl, rfl, rfl, h1, r1⟩ := trodAll_cons r0
  obtain ⟨v2, vs2, d2, ds2, p2, q2, rfl, rfl, rfl, h2, r2⟩ := trodAll_cons r1
  obtain ⟨v3, vs3, d3, ds3, p3, q3, rfl, rfl, rfl, h3, r3⟩ := trodAll_cons r2
  obtain ⟨v4, vs4, d4, ds4, p4, q4, rfl, rfl, rfl, h4, r4⟩ := trodAll_cons r3
  obtain ⟨rfl, rfl, rfl⟩ := trodAll_nil r4
  exact ⟨v0, v1, v2, v3, v4, d0, d1, d2, d3, d4, p0, p1, p2, p3, p4, by cases args; simp_all, rfl, by simp, h0, h1, h2, h3, h4⟩

theorem wf_bounds {n : Int} (h : (Lit.int .i64 n).wf = true) : -9223372036854775808 ≤ n ∧ n ≤ 9223372036854775807 := by
  have hm : IntKind.i64.min = -9223372036854775808 := by decide
  simpa [Lit.wf, hm] using h

theorem wf_u8b {n : Int} (h : (Lit.int .u8 n).wf = true) : 0 ≤ n ∧ n ≤ 255 := by
  have hm : IntKind.u8.min = 0 := by decide
  have hx : IntKind.u8.max = 255 := by decide
  simpa [Lit.wf, hm, hx] using h

theorem wf_u32b {n : Int} (h : (Lit.int .u32 n).wf = true) : 0 ≤ n ∧ n < 4294967296 := by
  have hm : IntKind.u32.min = 0 := by decide
  have hx : IntKind.u32.max = 4294967295 := by decide
  have := h
  simp [Lit.wf, hm, hx] at this
  omega

end Go.Proofs.Ytpddkhhdleknnaa

/- A rectangle that comes in as an argument: its four numbers. -/
namespace Go.Proofs.Ytpddkhhdleknnaa
open Go.ChangeShapes Go.WideShapes Go.ChangeAt Go.RowKit Go.Joins

theorem rc_cells : Try.prog.cellsOf 30 = 4 := by kernel_rfl

set_option maxRecDepth 100000 in
theorem open_rc {H : Type} {enc : TypeId × Value → H} {W : World} {base : Nat} {v : Value} {d : DataW H} {p : List MemPlace} (hv : Value.okWide Try.prog W .any base 30 v) (h : DataW.Trod enc Try.prog W 0 (fun _ => true) true 30 v d p) :
    ∃ r : Rc, v = RV r ∧ Fit r := by
  obtain ⟨v0, v1, v2, v3, y0, y1, y2, y3, n, rfl, rfl, rfl, h0, h1, h2, h3⟩ := open_agg4 Try.underlying30 (by kernel_rfl) rc_cells hv h
  obtain ⟨a, e0, rfl, wa⟩ := DataW.trod_int Try.underlying3 h0
  obtain ⟨b, e1, rfl, wb⟩ := DataW.trod_int Try.underlying3 h1
  obtain ⟨c, e2, rfl, wc⟩ := DataW.trod_int Try.underlying3 h2
  obtain ⟨e, e3, rfl, we⟩ := DataW.trod_int Try.underlying3 h3
  simp at e0 e1 e2 e3
  subst e0 e1 e2 e3
  exact ⟨⟨a, b, c, e⟩, rfl, (wf_bounds wa).2, (wf_bounds wb).2⟩

end Go.Proofs.Ytpddkhhdleknnaa

/- A picture that comes in as an argument: the numbers that it reads as. -/
namespace Go.Proofs.Ytpddkhhdleknnaa
open Go.ChangeShapes Go.WideShapes Go.ChangeAt Go.RowKit Go.Joins Go.Deep

theorem iv_cells : Try.prog.cellsOf 39 = 3 := by kernel_rfl

/-- What a picture that is handed in may be. -/
structure Img (W : World) (wd ht : Int) (p : Option Addr) (c : Nat) (S : List Int) : Prop where
  row : RowAt encU 1 W p S
  u : U32 S
  len : S.length ≤ c
  cap : c ≤ 9223372036854775807
  wb : -9223372036854775808 ≤ wd ∧ wd ≤ 9223372036854775807
  hb : -9223372036854775808 ≤ ht ∧ ht ≤ 9223372036854775807

set_option maxRecDepth 100000 in
theorem open_u32s {H : Type} {enc : TypeId × Value → H} {W : World} {base n : Nat} {v : Value} {y : DataW H × List MemPlace} (hv : Cell.okWide Try.prog W .any base 37 v) (h : DataW.trod enc Try.prog W 0 (fun _ => true) true n 37 [v] = some y) :
    ∃ (p : Option Addr) (c : Nat) (S : List Int), v = .slice p S.length c ∧ RowAt encU 1 W p S ∧ U32 S ∧ S.length ≤ c ∧ c ≤ 9223372036854775807 := by
  rcases open_slice1 Try.underlying37 (by kernel_rfl) h with ⟨hcs, -⟩ | ⟨a, len, cap, m, n, V, D, Pl, hcs, hb, hl, hm, hmm, hx, hi⟩
  · simp at hcs
    subst hcs
    exact ⟨none, 0, [], rfl, .inl ⟨rfl, rfl⟩, fun v h => (by cases h), Nat.le_refl _, by decide⟩
  · simp at hcs
    subst hcs
    have hh : W.has Try.prog .any base a 49 cap := by
      have h1 := hv
      simp only [Cell.okWide, Try.underlying37, Cell.ok] at h1
      exact h1.2.2
    obtain ⟨-, hspot, row, cells, hsh, -⟩ := hh
    have hlt : a.block < W.heap.size := by
      unfold World.shape? at hsh
      cases hq : W.heap[a.block]? with
      | none => rw [hq] at hsh; cases hsh
      | some o => exact (Array.getElem?_eq_some_iff.1 hq).1
    obtain ⟨ab, ao, asp⟩ := a
    dsimp only at hspot hlt
    subst hspot
    have H : ∀ i, i < len → ∃ x : Int, (0 ≤ x ∧ x < 4294967296) ∧ W.cell? ⟨ab, ao + i, none⟩ = some (.int .u32 x) := fun i him => by
      obtain ⟨hc, ht⟩ := hi i (by rw [hmm]; simp; omega)
      obtain ⟨x, e, -, wx⟩ := DataW.trod_int Try.underlying49 ht
      simp at e
      rw [e] at hc
      rw [Addr.add_lit] at hc
      exact ⟨x, wf_u32b wx, hc⟩
    obtain ⟨f, hf'⟩ : ∃ f : Nat → Int, ∀ i, i < len → (0 ≤ f i ∧ f i < 4294967296) ∧ W.cell? ⟨ab, ao + i, none⟩ = some (.int .u32 (f i)) := by
      classical
      refine ⟨fun i => if h : i < len then Classical.choose (H i h) else default, fun i him => ?_⟩
      simp only [him, dif_pos]
      exact Classical.choose_spec (H i him)
    have hln : ((List.range len).map f).length = len := by simp
    refine ⟨some ⟨ab, ao, none⟩, cap, (List.range len).map f, by rw [hln], .inr ⟨_, _, rfl, hlt, fun i x hx j u hu => ?_⟩, fun v hv => ?_, by rw [hln]; exact hl, hm⟩
    · rw [List.getElem?_map] at hx
      cases hr : (List.range len)[i]? with
      | none => rw [hr] at hx; cases hx
      | some q =>
        rw [hr] at hx
        obtain ⟨hlt2, hq⟩ := List.getElem?_eq_some_iff.1 hr
        rw [List.getElem_range] at hq
        subst hq
        cases hx
        obtain ⟨hj, hju⟩ := List.getElem?_eq_some_iff.1 hu
        have hj0 : j = 0 := by simp [encU] at hj; omega
        subst hj0
        simp [encU] at hju
        subst hju
        have := (hf' i (by simpa using hlt2)).2
        simpa using this
    · obtain ⟨i, hi', rfl⟩ := List.mem_map.1 hv
      exact (hf' i (by simpa using hi')).1

set_option maxRecDepth 100000 in
theorem open_img {H : Type} {enc : TypeId × Value → H} {W : World} {base : Nat} {v : Value} {d : DataW H} {p : List MemPlace} (hv : Value.okWide Try.prog W .any base 39 v) (h : DataW.Trod enc Try.prog W 0 (fun _ => true) true 39 v d p) :
    ∃ (wd ht : Int) (q : Option Addr) (c : Nat) (S : List Int), v = IV wd ht (.slice q S.length c) ∧ Img W wd ht q c S := by
  obtain ⟨v0, v1, v2, y0, y1, y2, n, rfl, rfl, rfl, h0, h1, h2⟩ := open_agg3 Try.underlying39 (by kernel_rfl) iv_cells hv h
  obtain ⟨a, e0, -, wa⟩ := DataW.trod_int Try.underlying3 h0
  obtain ⟨b, e1, -, wb⟩ := DataW.trod_int Try.underlying3 h1
  simp at e0 e1
  subst e0 e1
  have hc : Cell.okWide Try.prog W .any base 37 v2 := by
    have h3 := hv
    unfold Value.okWide at h3
    rw [Try.underlying39] at h3
    obtain ⟨cs, hcs, -, ts, hts, -, hall⟩ := h3
    cases hcs
    have ht : Try.prog.cellTypes Try.prog.depth 39 = some [3, 3, 37] := by kernel_rfl
    rw [ht] at hts
    cases hts
    obtain ⟨u, hu, hok⟩ := hall 2 v2 rfl
    cases hu
    exact hok
  obtain ⟨q, c, S, rfl, hr, hu, hl, hm⟩ := open_u32s hc h2
  exact ⟨a, b, q, c, S, rfl, hr, hu, hl, hm, wf_bounds wa, wf_bounds wb⟩

end Go.Proofs.Ytpddkhhdleknnaa

/- What is done to a buffer, as an argument: the numbers that it is. -/
namespace Go.Proofs.Ytpddkhhdleknnaa
open Go.ChangeShapes Go.WideShapes Go.ChangeAt Go.RowKit Go.Joins Go.Deep

/-- An act's value. -/
abbrev ActV (d x y c : Int) (r : Rc) (mw mh : Int) (s : Value) (t : Rc) (dx dy : Int) : Value :=
  .agg #[.int .i64 d, .int .i64 x, .int .i64 y, .int .u32 c, .int .i64 r.x, .int .i64 r.y, .int .i64 r.a, .int .i64 r.b, .int .i64 mw, .int .i64 mh, s, .int .i64 t.x, .int .i64 t.y, .int .i64 t.a, .int .i64 t.b, .int .i64 dx, .int .i64 dy]

theorem cell_int {P : Program} {W : World} {base : Nat} {t : TypeId} {k : IntKind} {v : Value} (hu : P.underlying t = some (.int k)) (h : Cell.okWide P W .any base t v) : ∃ n, v = .int k n ∧ k.has n := by
  unfold Cell.okWide Cell.ok at h
  rw [hu] at h
  cases v <;> simp at h
  · rename_i k' n
    obtain ⟨rfl, h2⟩ := h
    exact ⟨n, rfl, h2⟩

theorem has_i64 {n : Int} (h : IntKind.i64.has n) : -9223372036854775808 ≤ n ∧ n ≤ 9223372036854775807 := by
  have hm : IntKind.i64.min = -9223372036854775808 := by decide
  have hx : IntKind.i64.max = 9223372036854775807 := by decide
  unfold IntKind.has at h
  rw [hm, hx] at h
  exact h
theorem has_u32 {n : Int} (h : IntKind.u32.has n) : 0 ≤ n ∧ n < 4294967296 := by
  have hm : IntKind.u32.min = 0 := by decide
  have hx : IntKind.u32.max = 4294967295 := by decide
  unfold IntKind.has at h
  rw [hm, hx] at h
  omega

theorem cell_slice {P : Program} {W : World} {base : Nat} {t e : TypeId} {v : Value} (hu : P.underlying t = some (.slice e)) (h : Cell.okWide P W .any base t v) : ∃ p n c, v = .slice p n c := by
  unfold Cell.okWide Cell.ok at h
  rw [hu] at h
  cases v <;> simp at h
  rename_i p n c
  exact ⟨p, n, c, rfl⟩

set_option maxRecDepth 100000 in
theorem open_act {W : World} {base : Nat} {v : Value} (hv : Value.okWide Try.prog W .any base 54 v) :
    ∃ (d x y c : Int) (r : Rc) (mw mh : Int) (p : Option Addr) (n cp : Nat) (t : Rc) (dx dy : Int), v = ActV d x y c r mw mh (.slice p n cp) t dx dy ∧ Fit r ∧ Fit t ∧ (0 ≤ c ∧ c < 4294967296) := by
  have h3 := hv
  unfold Value.okWide at h3
  rw [Try.underlying54] at h3
  obtain ⟨cs, rfl, hsz, ts, hts, -, hall⟩ := h3
  have hn : Try.prog.cellsOf 54 = 17 := by kernel_rfl
  rw [hn] at hsz
  have ht : Try.prog.cellTypes Try.prog.depth 54 = some [3, 3, 3, 49, 3, 3, 3, 3, 3, 3, 37, 3, 3, 3, 3, 3, 3] := by kernel_rfl
  rw [ht] at hts
  cases hts
  obtain ⟨l⟩ := cs
  match l, hsz with
  | [v0, v1, v2, v3, v4, v5, v6, v7, v8, v9, v10, v11, v12, v13, v14, v15, v16], _ =>
    have hi : ∀ i v, ([v0, v1, v2, v3, v4, v5, v6, v7, v8, v9, v10, v11, v12, v13, v14, v15, v16] : List Value)[i]? = some v → ∀ u, ([3, 3, 3, 49, 3, 3, 3, 3, 3, 3, 37, 3, 3, 3, 3, 3, 3] : List TypeId)[i % 17]? = some u → Cell.okWide Try.prog W .any base u v := by
      intro i v h1 u h2
      obtain ⟨u', h3, h4⟩ := hall i v (by simpa using h1)
      have h5 : u' = u := by
        have : (17 : Nat) = ([3, 3, 3, 49, 3, 3, 3, 3, 3, 3, 37, 3, 3, 3, 3, 3, 3] : List TypeId).length := rfl
        rw [this] at h2
        rw [h2] at h3
        exact (Option.some.inj h3).symm
      exact h5 ▸ h4
    obtain ⟨n0, rfl, -⟩ := cell_int Try.underlying3 (hi 0 v0 rfl _ rfl)
    obtain ⟨n1, rfl, -⟩ := cell_int Try.underlying3 (hi 1 v1 rfl _ rfl)
    obtain ⟨n2, rfl, -⟩ := cell_int Try.underlying3 (hi 2 v2 rfl _ rfl)
    obtain ⟨n3, rfl, b3⟩ := cell_int Try.underlying49 (hi 3 v3 rfl _ rfl)
    obtain ⟨n4, rfl, b4⟩ := cell_int Try.underlying3 (hi 4 v4 rfl _ rfl)
    obtain ⟨n5, rfl, b5⟩ := cell_int Try.underlying3 (hi 5 v5 rfl _ rfl)
    obtain ⟨n6, rfl, -⟩ := cell_int Try.underlying3 (hi 6 v6 rfl _ rfl)
    obtain ⟨n7, rfl, -⟩ := cell_int Try.underlying3 (hi 7 v7 rfl _ rfl)
    obtain ⟨n8, rfl, -⟩ := cell_int Try.underlying3 (hi 8 v8 rfl _ rfl)
    obtain ⟨n9, rfl, -⟩ := cell_int Try.underlying3 (hi 9 v9 rfl _ rfl)
    obtain ⟨p, n, c, rfl⟩ := cell_slice Try.underlying37 (hi 10 v10 rfl _ rfl)
    obtain ⟨n11, rfl, b11⟩ := cell_int Try.underlying3 (hi 11 v11 rfl _ rfl)
    obtain ⟨n12, rfl, b12⟩ := cell_int Try.underlying3 (hi 12 v12 rfl _ rfl)
    obtain ⟨n13, rfl, -⟩ := cell_int Try.underlying3 (hi 13 v13 rfl _ rfl)
    obtain ⟨n14, rfl, -⟩ := cell_int Try.underlying3 (hi 14 v14 rfl _ rfl)
    obtain ⟨n15, rfl, -⟩ := cell_int Try.underlying3 (hi 15 v15 rfl _ rfl)
    obtain ⟨n16, rfl, -⟩ := cell_int Try.underlying3 (hi 16 v16 rfl _ rfl)
    exact ⟨n0, n1, n2, n3, ⟨n4, n5, n6, n7⟩, n8, n9, p, n, c, ⟨n11, n12, n13, n14⟩, n15, n16, rfl, ⟨(has_i64 b4).2, (has_i64 b5).2⟩, ⟨(has_i64 b11).2, (has_i64 b12).2⟩, has_u32 b3⟩

end Go.Proofs.Ytpddkhhdleknnaa

/- Slices of rectangles held against each other, place by place: the document's Rects, and the statements' own rects. -/
namespace Go.Proofs.Ytpddkhhdleknnaa
open Go.RowKit

def eqRs : List Rc → List Rc → Bool
  | [], [] => true
  | r :: l, s :: m => eqR r s && eqRs l m
  | _, _ => false

theorem eqRs_len {l m : List Rc} (h : l.length ≠ m.length) : eqRs l m = false := by
  induction l generalizing m with
  | nil => cases m <;> simp_all [eqRs]
  | cons r l ih =>
    cases m with
    | nil => rfl
    | cons s m => simp only [eqRs]; rw [ih (by simpa using h)]; simp
theorem eqRs_at {l m : List Rc} {k : Nat} (h1 : k < l.length) (h2 : k < m.length) : eqRs (l.drop k) (m.drop k) = (eqR l[k] m[k] && eqRs (l.drop (k + 1)) (m.drop (k + 1))) := by
  rw [List.drop_eq_getElem_cons h1, List.drop_eq_getElem_cons h2]; rfl

theorem eqRs_iff {l m : List Rc} : eqRs l m = true ↔ l = m := by
  induction l generalizing m with
  | nil => cases m <;> simp [eqRs]
  | cons r l ih =>
    cases m with
    | nil => simp [eqRs]
    | cons s m =>
      simp only [eqRs, Bool.and_eq_true, ih, List.cons.injEq]
      constructor
      · rintro ⟨h1, h2⟩; exact ⟨by cases r; cases s; simpa [eqR] using h1, h2⟩
      · rintro ⟨h1, h2⟩; exact ⟨by subst h1; simp [eqR], h2⟩

set_option maxHeartbeats 1000000 in
theorem refRects_any (v u : Value) (xs ys : List Rc) (w : World) (hv : Row encR 4 w v xs) (hu : Row encR 4 w u ys) :
    Makes Try.prog 11 #[v, u] w (.bool (eqRs xs ys)) := by
  unfold Makes
  have hn := hv.len
  have hm := hu.len
  obtain ⟨p, cap, rfl, -, -, hp⟩ := hv
  obtain ⟨q, cap2, rfl, -, -, hq⟩ := hu
  have hne := neq_rc
  by_cases hl : xs.length = ys.length
  · have hl1 : ((xs.length : Int) != (ys.length : Int)) = false := by simp [hl]
    have Hl := Lib.hid hl
    clear hl
    go_enter Try.func11, Try.ntmps11
    go_wp2
    go_loopw [5] (fun i wr => ∃ k : Nat, k ≤ xs.length ∧ i = .int .i64 k ∧ Below w.heap.size w wr ∧ Hid (eqRs xs ys = eqRs (xs.drop k) (ys.drop k))) (fun i _ => xs.length - (intOf i).toNat)
    case atStart => exact ⟨0, by omega, rfl, Below.refl _ _, Lib.hid rfl⟩
    case round =>
      obtain ⟨k, hk, rfl, hb, he⟩ := hrel
      by_cases hlt : k < xs.length
      · have hlt2 : k < ys.length := by rw [← Hl.out]; exact hlt
        obtain ⟨b, off, rfl, hB, hc⟩ := (hp.below hb).rc hlt
        obtain ⟨b2, off2, rfl, hB2, hc2⟩ := (hq.below hb).rc hlt2
        obtain ⟨a0, a1, a2, a3⟩ := hc k hlt
        obtain ⟨d0, d1, d2, d3⟩ := hc2 k hlt2
        have Hat := Lib.hid (eqRs_at hlt hlt2)
        clear hc hc2
        generalize xs[k] = r at *
        generalize ys[k] = s at *
        go_wp2
        go_quiet (fail)
        cases hr : eqR r s
        · have Hr := Lib.hid hr
          clear hr
          go_wp2
          go_ret
          exact ⟨ret_bool (by rw [he.out, Hat.out, Hr.out]; rfl), Below.drewN' hb _⟩
        · have Hr := Lib.hid hr
          clear hr
          go_wp2
          go_roundw
          case rel => exact ⟨k + 1, by omega, by go_num, Below.drewN' hb _, Lib.hid (by rw [he.out, Hat.out, Hr.out]; rfl)⟩
          case measure => simp [intOf]; omega
      · go_wp2
        go_ret
        refine ⟨ret_bool ?_, hb⟩
        rw [he.out, List.drop_eq_nil_of_le (by omega), List.drop_eq_nil_of_le (by rw [← Hl.out]; omega)]; rfl
  · have hl1 : ((xs.length : Int) != (ys.length : Int)) = true := by simp; omega
    have Hl := Lib.hid hl
    clear hl
    go_enter Try.func11, Try.ntmps11
    go_wp2
    go_ret
    exact ⟨ret_bool (eqRs_len Hl.out).symm, Below.refl _ _⟩

end Go.Proofs.Ytpddkhhdleknnaa
