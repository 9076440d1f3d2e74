/- Several texts in one, each with its own head. -/
import Derived.Test.YtajoipmchgabfaaGreatT40
import Derived.Test.YtajoipmchgabfaaGreatT45
import Derived.Test.YtajoipmchgabfaaGreatT46
import Derived.Test.YtajoipmchgabfaaGreatT36
import Derived.Test.YtajoipmchgabfaaGreatT1
import Derived.ProofKit
import Derived.Lib.SmallJoins
import Derived.Test.YtajoipmchgabfaaGreatT38
import Derived.Deep.Slices
import Derived.Test.YtajoipmchgabfaaGreatT24
/- The walk of the statement TilesTells. -/
namespace Go.Proofs.YtajoipmchgabfaaGreat
open Go.RowKit

set_option maxRecDepth 20000 in
set_option maxHeartbeats 8000000 in
theorem ttells_any (v : Value) (l : List Rc) (w h wd ht : Int) (p : Option Addr) (cap : Nat) (S : List Int) (W : World) (hv : Row encR 4 W v l) (hf : ∀ r ∈ l, Fit r) (hS : RowAt encW 1 W p S) (hsl : S.length ≤ cap) (hcap : cap ≤ 9223372036854775807) (hu : ∀ v ∈ S, 0 ≤ v ∧ v < 4294967296) :
    Makes Tryz.prog 3 #[v, .int .i64 w, .int .i64 h, .agg #[.int .i64 wd, .int .i64 ht, .slice p S.length cap]] W (.bool true) := by
  unfold Makes
  have hv0 := hv
  obtain ⟨pl, cl, rfl, hc1, hc2, -⟩ := hv0
  have Hv := Lib.hid hv
  have HS := Lib.hid hS
  have Hu := Lib.hid hu
  obtain ⟨n, hn⟩ : ∃ n, S.length = n := ⟨_, rfl⟩
  obtain ⟨m, hm⟩ : ∃ m, l.length = m := ⟨_, rfl⟩
  have Hnm := Lib.hid (And.intro hn hm)
  rw [hn] at hsl ⊢
  rw [hm] at hc1 Hv ⊢
  clear hv hS hu hn hm
  go_enter Tryz.func3, Tryz.ntmps3
  go_upto_region 1 with (fail)
  have hb0 := Below.al1 W (.cells #[.int .i64 wd, .int .i64 ht, .slice p n cap] 25)
  have hi1 := World.alloc_heap_new W (.cells #[.int .i64 wd, .int .i64 ht, .slice p n cap] 25)
  generalize W.alloc (.cells #[.int .i64 wd, .int .i64 ht, .slice p n cap] 25) = w0 at *
  have m0 : w0.cell? ⟨W.heap.size, 0, none⟩ = some (.int .i64 wd) := cell_heapT hi1 rfl
  have m1 : w0.cell? ⟨W.heap.size, 1, none⟩ = some (.int .i64 ht) := cell_heapT hi1 rfl
  have m2 : w0.cell? ⟨W.heap.size, 2, none⟩ = some (.slice p n cap) := cell_heapT hi1 rfl
  have Hb0 := Lib.hid hb0
  have Hi1 := Lib.hid hi1
  clear hb0 hi1
  have hwk : ∀ {R : Ending → World → Prop} (u : World), (∀ e w', e = .returned (.bool true) ∧ Below u.heap.size u w' → R e w') → Calls Tryz.prog 4 #[] u R := fun u h => Calls.mono (tlWakes_any u) h
  by_cases hl16 : 16 < m
  · have d0 : decide ((m : Int) > 16) = true := by simp; omega
    go_wp2_with fail
    refine hwk _ ?_
    rintro _ w1 ⟨rfl, hb1⟩
    have Hb := Lib.hid (Below.thn Hb0.out hb1)
    clear hb1 m0 m1 m2 hwk
    go_wp2
    go_ret
    exact ⟨rfl, Hb.out⟩
  have d0 : decide ((m : Int) > 16) = false := by simp; omega
  by_cases hbig : 2000 < n
  · have d1 : decide ((n : Int) > 2000) = true := by simp; omega
    go_wp2_with fail
    refine hwk _ ?_
    rintro _ w1 ⟨rfl, hb1⟩
    have Hb := Lib.hid (Below.thn Hb0.out hb1)
    clear hb1 m0 m1 m2 hwk
    go_wp2
    go_ret
    exact ⟨rfl, Hb.out⟩
  have d1 : decide ((n : Int) > 2000) = false := by simp; omega
  have H1 : Hid (∀ W', Below w0.heap.size w0 W' → Calls Tryz.prog 6 #[.int .i64 w, .int .i64 h] W' fun e w' => ∃ v', e = .returned v' ∧ Below w0.heap.size w0 w' ∧ Below W'.heap.size W' w' ∧ ∀ W'', Below w'.heap.size w' W'' → Row encR 4 W'' v' (grL (szW w h) (szH w h))) := Lib.hid (fun W' hW =>
    Calls.mono (grid_any w h W') (by
      rintro _ w' ⟨v', rfl, ho, hb⟩
      exact ⟨v', rfl, Below.thn hW hb, hb, fun W'' hW'' => (owns_row' (enc := encR) (k := 4) (fun _ => rfl) ho).below hW''⟩))
  have H2 : Hid (∀ W', Below w0.heap.size w0 W' → Calls Tryz.prog 7 #[.int .i64 w, .int .i64 h] W' fun e w' => ∃ v', e = .returned v' ∧ Below w0.heap.size w0 w' ∧ Below W'.heap.size W' w' ∧ ∀ W'', Below w'.heap.size w' W'' → Row encR 4 W'' v' (grL (szW w h) (szH w h))) := Lib.hid (fun W' hW =>
    Calls.mono (refGrid_any w h W') (by
      rintro _ w' ⟨v', rfl, ho, hb⟩
      exact ⟨v', rfl, Below.thn hW hb, hb, fun W'' hW'' => (owns_row' (enc := encR) (k := 4) (fun _ => rfl) ho).below hW''⟩))
  have H3 : Hid (∀ W', Below w0.heap.size w0 W' → Calls Tryz.prog 9 #[.slice pl m cl, .int .i64 w, .int .i64 h] W' fun e w' => ∃ v', e = .returned v' ∧ Below w0.heap.size w0 w' ∧ Below W'.heap.size W' w' ∧ ∀ W'', Below w'.heap.size w' W'' → Row encI 1 W'' v' (tcL (szW w h) (szH w h) l)) := Lib.hid (fun W' hW =>
    Calls.mono (touched_any _ l w h W' (Hv.out.below (Below.thn Hb0.out hW)) hf (by rw [Hnm.out.2]; omega)) (by
      rintro _ w' ⟨v', rfl, ho, hb⟩
      exact ⟨v', rfl, Below.thn hW hb, hb, fun W'' hW'' => (Row.ownI ho).below hW''⟩))
  have H4 : Hid (∀ W', Below w0.heap.size w0 W' → Calls Tryz.prog 10 #[.slice pl m cl, .int .i64 w, .int .i64 h] W' fun e w' => ∃ v', e = .returned v' ∧ Below w0.heap.size w0 w' ∧ Below W'.heap.size W' w' ∧ ∀ W'', Below w'.heap.size w' W'' → Row encI 1 W'' v' (tcL (szW w h) (szH w h) l)) := Lib.hid (fun W' hW =>
    Calls.mono (refTouched_any _ l w h W' (Hv.out.below (Below.thn Hb0.out hW)) (by rw [Hnm.out.2]; omega)) (by
      rintro _ w' ⟨v', rfl, ho, hb⟩
      exact ⟨v', rfl, Below.thn hW hb, hb, fun W'' hW'' => (Row.ownI ho).below hW''⟩))
  have H5 : Hid (∀ W', Below w0.heap.size w0 W' → Calls Tryz.prog 11 #[.slice pl m cl, .int .i64 w, .int .i64 h] W' fun e w' => ∃ v', e = .returned v' ∧ Below w0.heap.size w0 w' ∧ Below W'.heap.size W' w' ∧ ∀ W'', Below w'.heap.size w' W'' → Row encR 4 W'' v' (spL (szW w h) (szH w h) l)) := Lib.hid (fun W' hW =>
    Calls.mono (split_any _ l w h W' (Hv.out.below (Below.thn Hb0.out hW)) hf (by rw [Hnm.out.2]; omega)) (by
      rintro _ w' ⟨v', rfl, ho, hb⟩
      exact ⟨v', rfl, Below.thn hW hb, hb, fun W'' hW'' => (owns_row' (enc := encR) (k := 4) (fun _ => rfl) ho).below hW''⟩))
  have H6 : Hid (∀ W', Below w0.heap.size w0 W' → Calls Tryz.prog 12 #[.slice pl m cl, .int .i64 w, .int .i64 h] W' fun e w' => ∃ v', e = .returned v' ∧ Below w0.heap.size w0 w' ∧ Below W'.heap.size W' w' ∧ ∀ W'', Below w'.heap.size w' W'' → Row encR 4 W'' v' (spL (szW w h) (szH w h) l)) := Lib.hid (fun W' hW =>
    Calls.mono (refSplit_any _ l w h W' (Hv.out.below (Below.thn Hb0.out hW)) hf (by rw [Hnm.out.2]; omega)) (by
      rintro _ w' ⟨v', rfl, ho, hb⟩
      exact ⟨v', rfl, Below.thn hW hb, hb, fun W'' hW'' => (owns_row' (enc := encR) (k := 4) (fun _ => rfl) ho).below hW''⟩))
  have H7 : Hid (∀ W', Below w0.heap.size w0 W' → Calls Tryz.prog 14 #[.agg #[.int .i64 wd, .int .i64 ht, .slice p n cap]] W' fun e w' => ∃ v', e = .returned v' ∧ Below w0.heap.size w0 w' ∧ Below W'.heap.size W' w' ∧ ∀ W'', Below w'.heap.size w' W'' → Row encW 1 W'' v' (smL wd ht S)) := Lib.hid (fun W' hW =>
    Calls.mono (sums_any wd ht p cap n S W' (HS.out.below (Below.thn Hb0.out hW)) Hnm.out.1 hsl hcap) (by
      rintro _ w' ⟨v', rfl, ho, hb⟩
      exact ⟨v', rfl, Below.thn hW hb, hb, fun W'' hW'' => (Row.ownZ ho).below hW''⟩))
  have H8 : Hid (∀ W', Below w0.heap.size w0 W' → Calls Tryz.prog 15 #[.agg #[.int .i64 wd, .int .i64 ht, .slice p n cap]] W' fun e w' => ∃ v', e = .returned v' ∧ Below w0.heap.size w0 w' ∧ Below W'.heap.size W' w' ∧ ∀ W'', Below w'.heap.size w' W'' → Row encW 1 W'' v' (smL wd ht S)) := Lib.hid (fun W' hW =>
    Calls.mono (refSums_any wd ht p cap n S W' (HS.out.below (Below.thn Hb0.out hW)) Hnm.out.1 Hu.out) (by
      rintro _ w' ⟨v', rfl, ho, hb⟩
      exact ⟨v', rfl, Below.thn hW hb, hb, fun W'' hW'' => (Row.ownZ ho).below hW''⟩))
  have HA : Hid (∀ W' v u, Below w0.heap.size w0 W' → Row encR 4 W' v (grL (szW w h) (szH w h)) → Row encR 4 W' u (grL (szW w h) (szH w h)) → Calls Tryz.prog 5 #[v, u] W' fun e w' => e = .returned (.bool true) ∧ Below w0.heap.size w0 w') := Lib.hid (fun W' v u hW hv hu =>
    Calls.mono (refRects_any v u _ _ W' hv hu) (by
      rintro _ w' ⟨rfl, hb⟩
      exact ⟨by rw [eqRs_iff.2 rfl], Below.thn hW hb⟩))
  have HB : Hid (∀ W' v u, Below w0.heap.size w0 W' → Row encI 1 W' v (tcL (szW w h) (szH w h) l) → Row encI 1 W' u (tcL (szW w h) (szH w h) l) → Calls Tryz.prog 8 #[v, u] W' fun e w' => e = .returned (.bool true) ∧ Below w0.heap.size w0 w') := Lib.hid (fun W' v u hW hv hu =>
    Calls.mono (ints_any v u _ _ W' hv hu) (by
      rintro _ w' ⟨rfl, hb⟩
      exact ⟨by simp, Below.thn hW hb⟩))
  have HC : Hid (∀ W' v u, Below w0.heap.size w0 W' → Row encR 4 W' v (spL (szW w h) (szH w h) l) → Row encR 4 W' u (spL (szW w h) (szH w h) l) → Calls Tryz.prog 5 #[v, u] W' fun e w' => e = .returned (.bool true) ∧ Below w0.heap.size w0 w') := Lib.hid (fun W' v u hW hv hu =>
    Calls.mono (refRects_any v u _ _ W' hv hu) (by
      rintro _ w' ⟨rfl, hb⟩
      exact ⟨by rw [eqRs_iff.2 rfl], Below.thn hW hb⟩))
  have HD : Hid (∀ W' v u, Below w0.heap.size w0 W' → Row encW 1 W' v (smL wd ht S) → Row encW 1 W' u (smL wd ht S) → Calls Tryz.prog 13 #[v, u] W' fun e w' => e = .returned (.bool true) ∧ Below w0.heap.size w0 w') := Lib.hid (fun W' v u hW hv hu =>
    Calls.mono (sames_any v u _ _ W' hv hu) (by
      rintro _ w' ⟨rfl, hb⟩
      exact ⟨by simp, Below.thn hW hb⟩))
  have HW : Hid (∀ W', Below w0.heap.size w0 W' → Calls Tryz.prog 4 #[] W' fun e w' => e = .returned (.bool true) ∧ Below w0.heap.size w0 w') := Lib.hid (fun W' hW =>
    Calls.mono (tlWakes_any W') (by
      rintro _ w' ⟨rfl, hb⟩
      exact ⟨rfl, Below.thn hW hb⟩))
  clear hwk
  go_upto_region 3 with (fail)
  go_region_with (first
    | (go_at_call 6; refine Calls.mono (H1.out _ (Below.drew (Below.refl _ _))) ?_; rintro _ w1 ⟨v1, rfl, b1, s1, r1⟩)
    | (go_at_call 7; refine Calls.mono (H2.out _ b1) ?_; rintro _ w2 ⟨v2, rfl, b2, s2, r2⟩)
    | (go_at_call 5; first
      | (refine Calls.mono (HC.out _ _ _ b8 (r7 _ s8) (r8 _ (Below.refl _ _))) ?_; rintro _ w9 ⟨rfl, b9⟩; have c0 := cell_later b9 m0; have c1 := cell_later b9 m1; have c2 := cell_later b9 m2)
      | (refine Calls.mono (HA.out _ _ _ b2 (r1 _ s2) (r2 _ (Below.refl _ _))) ?_; rintro _ w3 ⟨rfl, b3⟩))
    | (go_at_call 9; refine Calls.mono (H3.out _ b3) ?_; rintro _ w4 ⟨v4, rfl, b4, s4, r4⟩)
    | (go_at_call 10; refine Calls.mono (H4.out _ b4) ?_; rintro _ w5 ⟨v5, rfl, b5, s5, r5⟩)
    | (go_at_call 8; refine Calls.mono (HB.out _ _ _ b5 (r4 _ s5) (r5 _ (Below.refl _ _))) ?_; rintro _ w6 ⟨rfl, b6⟩)
    | (go_at_call 11; refine Calls.mono (H5.out _ b6) ?_; rintro _ w7 ⟨v7, rfl, b7, s7, r7⟩)
    | (go_at_call 12; refine Calls.mono (H6.out _ b7) ?_; rintro _ w8 ⟨v8, rfl, b8, s8, r8⟩)
    | (go_at_call 14; refine Calls.mono (H7.out _ b9) ?_; rintro _ w10 ⟨v10, rfl, b10, s10, r10⟩; have d0 := cell_later b10 m0; have d1 := cell_later b10 m1; have d2 := cell_later b10 m2)
    | (go_at_call 15; refine Calls.mono (H8.out _ b10) ?_; rintro _ w11 ⟨v11, rfl, b11, s11, r11⟩)
    | (go_at_call 13; refine Calls.mono (HD.out _ _ _ b11 (r10 _ s11) (r11 _ (Below.refl _ _))) ?_; rintro _ w12 ⟨rfl, b12⟩)
    | (go_at_call 4; refine Calls.mono (HW.out _ b12) ?_; rintro _ w13 ⟨rfl, b13⟩))
  all_goals
    go_wp2
    go_ret
    exact ⟨rfl, Below.thn Hb0.out b13⟩

end Go.Proofs.YtajoipmchgabfaaGreat

/- From a walk that ends in true, and that changes nothing that was there, to what a statement says: whatever the arguments, they read behind the call as they read before. Nothing here speaks of one function. -/
namespace Go.Proofs.YtajoipmchgabfaaGreat
open Go.ChangeShapes Go.WideShapes Go.ChangeAt Go.RowKit Go.Joins

theorem Tryz.own : ownKnob Tryz.prog.godebug = none := by kernel_rfl
theorem Tryz.laidOut : laidOutB Tryz.prog = true := by kernel_rfl

/-- Arguments read behind a call that keeps all that was there as they read before it. -/
theorem trodAll_below {H : Type} {enc : TypeId × Value → H} {P : Program} (hl : laidOutB P = true) {W W' : World} (hb : Below W.heap.size W W') :
    ∀ (ts : List TypeId) (vs : List Value) (ds : List (DataW H)) (ps : List MemPlace), (∀ t ∈ ts, P.readableRec t = true ∧ t < P.types.size) → DataW.TrodAll enc P W 0 (fun _ => true) true ts vs ds ps → (∀ x ∈ ps, x.block < W.heap.size) →
      DataW.TrodAll enc P W' 0 (fun b => decide (b < W.heap.size)) true ts vs ds ps
  | [], _, _, _, _, h, _ => by
    obtain ⟨rfl, rfl, rfl⟩ := trodAll_nil h
    exact trodAll_mk0
  | t :: ts, _, _, _, hr, h, hlt => by
    obtain ⟨v, vs', d, ds', p, q, rfl, rfl, rfl, h1, h2⟩ := trodAll_cons h
    have ht := hr t (by simp)
    exact trodAll_cons_mk (Below.trod hl ht.1 ht.2 h1 hb (fun x hx => hlt x (by simp [hx]))) (trodAll_below hl hb ts vs' ds' q (fun t' h' => hr t' (by simp [h'])) h2 (fun x hx => hlt x (by simp [hx])))

/-- What a statement asks behind the call, where the call answers true and keeps all that was there. -/
theorem law_post {H : Type} {enc : TypeId × Value → H} {f : Func} {s : ChangeSpec} (tb : TypeId) {W W' : World} {args : Array Value} {ds gs : List (DataW H)} {before : List MemPlace}
    (hread : ∀ t ∈ f.params.toList, Tryz.prog.readableRec t = true ∧ t < Tryz.prog.types.size) (hrt : f.resultTypes = #[tb]) (hub : Tryz.prog.underlying tb = some .bool) (hv : s.vars = [])
    (hW : DataW.Whole enc Tryz.prog f.params.toList s.vars false W args.toList ds gs before) (hr : (s.fn H (ds ++ gs)).results = [.lit (.bool true)]) (ha : (s.fn H (ds ++ gs)).args = ds) (hvs : (s.fn H (ds ++ gs)).vars = [])
    (hb : Below W.heap.size W W') : s.post enc Tryz.prog f false true false false W args (.bool true) W' := by
  have hlt := hW.lt
  have hW' := hW
  obtain ⟨p, q, hA, hV, rfl, hfz, hnd⟩ := hW
  rw [hv] at hV
  obtain ⟨rfl, rfl⟩ := trodVars_none hV
  refine ⟨_, _, _, [], p, [], hW', ?_, ?_, ?_, hb.frame _, fun h => by cases h⟩
  · rw [hr, hrt]
    exact trodAll_mk1 (shut_bool hub true)
  · rw [ha]
    exact trodAll_below Tryz.laidOut hb _ _ _ _ hread hA (fun x hx => by simpa using hlt x (by simp [hx]))
  · rw [hvs, hv]
    rfl

theorem trodAll_four_mine {H : Type} {enc : TypeId × Value → H} {P : Program} {w : World} {base : Nat} {spare : Nat → Bool} {held : Bool} {t0 t1 t2 t3 : TypeId} {args : Array Value} {ds : List (DataW H)} {ps : List MemPlace} (h : DataW.TrodAll enc P w base spare held [t0, t1, t2, t3] args.toList ds ps) :
    ∃ v0 v1 v2 v3 d0 d1 d2 d3 p0 p1 p2 p3, args = #[v0, v1, v2, v3] ∧ ds = [d0, d1, d2, d3] ∧ ps = p0 ++ (p1 ++ (p2 ++ p3)) ∧ DataW.Trod enc P w base spare held t0 v0 d0 p0 ∧ DataW.Trod enc P w base spare held t1 v1 d1 p1 ∧ DataW.Trod enc P w base spare held t2 v2 d2 p2 ∧ DataW.Trod enc P w base spare held t3 v3 d3 p3 := by
  obtain ⟨v0, vs0, d0, ds0, p0, q0, hargs, rfl, rfl, h0, r0⟩ := trodAll_cons h
  obtain ⟨v1, vs1, d1, ds1, p1, q1, rfl, rfl, rfl, h1, r1⟩ := trodAll_cons r0
  obtain ⟨v2, vs2, d2, ds2, p2, q2, rfl, rfl, rfl, h2, r2⟩ := trodAll_cons r1
  obtain ⟨v3, vs3, d3, ds3, p3, q3, rfl, rfl, rfl, h3, r3⟩ := trodAll_cons r2
  obtain ⟨rfl, rfl, rfl⟩ := trodAll_nil r3
  exact ⟨v0, v1, v2, v3, d0, d1, d2, d3, p0, p1, p2, p3, by cases args; simp_all, rfl, by simp, h0, h1, h2, h3⟩

theorem trodAll_five_mine {H : Type} {enc : TypeId × Value → H} {P : Program} {w : World} {base : Nat} {spare : Nat → Bool} {held : Bool} {t0 t1 t2 t3 t4 : TypeId} {args : Array Value} {ds : List (DataW H)} {ps : List MemPlace} (h : DataW.TrodAll enc P w base spare held [t0, t1, t2, t3, t4] args.toList ds ps) :
    ∃ v0 v1 v2 v3 v4 d0 d1 d2 d3 d4 p0 p1 p2 p3 p4, args = #[v0, v1, v2, v3, v4] ∧ ds = [d0, d1, d2, d3, d4] ∧ ps = p0 ++ (p1 ++ (p2 ++ (p3 ++ p4))) ∧ DataW.Trod enc P w base spare held t0 v0 d0 p0 ∧ DataW.Trod enc P w base spare held t1 v1 d1 p1 ∧ DataW.Trod enc P w base spare held t2 v2 d2 p2 ∧ DataW.Trod enc P w base spare held t3 v3 d3 p3 ∧ DataW.Trod enc P w base spare held t4 v4 d4 p4 := by
  obtain ⟨v0, vs0, d0, ds0, p0, q0, hargs, rfl, rfl, h0, r0⟩ := trodAll_cons h
  obtain ⟨v1, vs1, d1, ds1, p1, q1, rfl, rfl, rfl, h1, r1⟩ := trodAll_cons r0
  obtain ⟨v2, vs2, d2, ds2, p2, q2, rfl, rfl, rfl, h2, r2⟩ := trodAll_cons r1
  obtain ⟨v3, vs3, d3, ds3, p3, q3, rfl, rfl, rfl, h3, r3⟩ := trodAll_cons r2
  obtain ⟨v4, vs4, d4, ds4, p4, q4, rfl, rfl, rfl, h4, r4⟩ := trodAll_cons r3
  obtain ⟨rfl, rfl, rfl⟩ := trodAll_nil r4
  exact ⟨v0, v1, v2, v3, v4, d0, d1, d2, d3, d4, p0, p1, p2, p3, p4, by cases args; simp_all, rfl, by simp, h0, h1, h2, h3, h4⟩

theorem wf_bounds {n : Int} (h : (Lit.int .i64 n).wf = true) : -9223372036854775808 ≤ n ∧ n ≤ 9223372036854775807 := by
  have hm : IntKind.i64.min = -9223372036854775808 := by decide
  simpa [Lit.wf, hm] using h

theorem wf_u8b {n : Int} (h : (Lit.int .u8 n).wf = true) : 0 ≤ n ∧ n ≤ 255 := by
  have hm : IntKind.u8.min = 0 := by decide
  have hx : IntKind.u8.max = 255 := by decide
  simpa [Lit.wf, hm, hx] using h

theorem wf_u32b {n : Int} (h : (Lit.int .u32 n).wf = true) : 0 ≤ n ∧ n < 4294967296 := by
  have hm : IntKind.u32.min = 0 := by decide
  have hx : IntKind.u32.max = 4294967295 := by decide
  have := h
  simp [Lit.wf, hm, hx] at this
  omega

end Go.Proofs.YtajoipmchgabfaaGreat

/- A rectangle that comes in as an argument: its four numbers. -/
namespace Go.Proofs.YtajoipmchgabfaaGreat
open Go.ChangeShapes Go.WideShapes Go.ChangeAt Go.RowKit Go.Joins

theorem rc_cells : Tryz.prog.cellsOf 37 = 4 := by kernel_rfl

set_option maxRecDepth 100000 in
theorem open_rc {H : Type} {enc : TypeId × Value → H} {W : World} {base : Nat} {v : Value} {d : DataW H} {p : List MemPlace} (hv : Value.okWide Tryz.prog W .any base 37 v) (h : DataW.Trod enc Tryz.prog W 0 (fun _ => true) true 37 v d p) :
    ∃ r : Rc, v = RV r ∧ Fit r := by
  obtain ⟨v0, v1, v2, v3, y0, y1, y2, y3, n, rfl, rfl, rfl, h0, h1, h2, h3⟩ := open_agg4 Tryz.underlying37 (by kernel_rfl) rc_cells hv h
  obtain ⟨a, e0, rfl, wa⟩ := DataW.trod_int Tryz.underlying3 h0
  obtain ⟨b, e1, rfl, wb⟩ := DataW.trod_int Tryz.underlying3 h1
  obtain ⟨c, e2, rfl, wc⟩ := DataW.trod_int Tryz.underlying3 h2
  obtain ⟨e, e3, rfl, we⟩ := DataW.trod_int Tryz.underlying3 h3
  simp at e0 e1 e2 e3
  subst e0 e1 e2 e3
  exact ⟨⟨a, b, c, e⟩, rfl, (wf_bounds wa).2, (wf_bounds wb).2⟩

end Go.Proofs.YtajoipmchgabfaaGreat

/- A picture that comes in as an argument, for seats that have nothing of pixbuf: the numbers that it reads as. -/
namespace Go.Proofs.YtajoipmchgabfaaGreat
open Go.ChangeShapes Go.WideShapes Go.ChangeAt Go.RowKit Go.Joins Go.Deep

theorem iv_cellsT : Tryz.prog.cellsOf 25 = 3 := by kernel_rfl

/-- What a picture that is handed in may be. -/
structure ImgT (W : World) (wd ht : Int) (p : Option Addr) (c : Nat) (S : List Int) : Prop where
  row : RowAt encW 1 W p S
  u : (∀ v ∈ S, 0 ≤ v ∧ v < 4294967296)
  len : S.length ≤ c
  cap : c ≤ 9223372036854775807
  wb : -9223372036854775808 ≤ wd ∧ wd ≤ 9223372036854775807
  hb : -9223372036854775808 ≤ ht ∧ ht ≤ 9223372036854775807

set_option maxRecDepth 100000 in
theorem open_u32sT {H : Type} {enc : TypeId × Value → H} {W : World} {base n : Nat} {v : Value} {y : DataW H × List MemPlace} (hv : Cell.okWide Tryz.prog W .any base 23 v) (h : DataW.trod enc Tryz.prog W 0 (fun _ => true) true n 23 [v] = some y) :
    ∃ (p : Option Addr) (c : Nat) (S : List Int), v = .slice p S.length c ∧ RowAt encW 1 W p S ∧ (∀ v ∈ S, 0 ≤ v ∧ v < 4294967296) ∧ S.length ≤ c ∧ c ≤ 9223372036854775807 := by
  rcases open_slice1 Tryz.underlying23 (by kernel_rfl) h with ⟨hcs, -⟩ | ⟨a, len, cap, m, n, V, D, Pl, hcs, hb, hl, hm, hmm, hx, hi⟩
  · simp at hcs
    subst hcs
    exact ⟨none, 0, [], rfl, .inl ⟨rfl, rfl⟩, fun v h => (by cases h), Nat.le_refl _, by decide⟩
  · simp at hcs
    subst hcs
    have hh : W.has Tryz.prog .any base a 38 cap := by
      have h1 := hv
      simp only [Cell.okWide, Tryz.underlying23, Cell.ok] at h1
      exact h1.2.2
    obtain ⟨-, hspot, row, cells, hsh, -⟩ := hh
    have hlt : a.block < W.heap.size := by
      unfold World.shape? at hsh
      cases hq : W.heap[a.block]? with
      | none => rw [hq] at hsh; cases hsh
      | some o => exact (Array.getElem?_eq_some_iff.1 hq).1
    obtain ⟨ab, ao, asp⟩ := a
    dsimp only at hspot hlt
    subst hspot
    have H : ∀ i, i < len → ∃ x : Int, (0 ≤ x ∧ x < 4294967296) ∧ W.cell? ⟨ab, ao + i, none⟩ = some (.int .u32 x) := fun i him => by
      obtain ⟨hc, ht⟩ := hi i (by rw [hmm]; simp; omega)
      obtain ⟨x, e, -, wx⟩ := DataW.trod_int Tryz.underlying38 ht
      simp at e
      rw [e] at hc
      rw [Addr.add_lit] at hc
      exact ⟨x, wf_u32b wx, hc⟩
    obtain ⟨f, hf'⟩ : ∃ f : Nat → Int, ∀ i, i < len → (0 ≤ f i ∧ f i < 4294967296) ∧ W.cell? ⟨ab, ao + i, none⟩ = some (.int .u32 (f i)) := by
      classical
      refine ⟨fun i => if h : i < len then Classical.choose (H i h) else default, fun i him => ?_⟩
      simp only [him, dif_pos]
      exact Classical.choose_spec (H i him)
    have hln : ((List.range len).map f).length = len := by simp
    refine ⟨some ⟨ab, ao, none⟩, cap, (List.range len).map f, by rw [hln], .inr ⟨_, _, rfl, hlt, fun i x hx j u hu => ?_⟩, fun v hv => ?_, by rw [hln]; exact hl, hm⟩
    · rw [List.getElem?_map] at hx
      cases hr : (List.range len)[i]? with
      | none => rw [hr] at hx; cases hx
      | some q =>
        rw [hr] at hx
        obtain ⟨hlt2, hq⟩ := List.getElem?_eq_some_iff.1 hr
        rw [List.getElem_range] at hq
        subst hq
        cases hx
        obtain ⟨hj, hju⟩ := List.getElem?_eq_some_iff.1 hu
        have hj0 : j = 0 := by simp [encW] at hj; omega
        subst hj0
        simp [encW] at hju
        subst hju
        have := (hf' i (by simpa using hlt2)).2
        simpa using this
    · obtain ⟨i, hi', rfl⟩ := List.mem_map.1 hv
      exact (hf' i (by simpa using hi')).1

set_option maxRecDepth 100000 in
theorem open_imgT {H : Type} {enc : TypeId × Value → H} {W : World} {base : Nat} {v : Value} {d : DataW H} {p : List MemPlace} (hv : Value.okWide Tryz.prog W .any base 25 v) (h : DataW.Trod enc Tryz.prog W 0 (fun _ => true) true 25 v d p) :
    ∃ (wd ht : Int) (q : Option Addr) (c : Nat) (S : List Int), v = .agg #[.int .i64 wd, .int .i64 ht, .slice q S.length c] ∧ ImgT W wd ht q c S := by
  obtain ⟨v0, v1, v2, y0, y1, y2, n, rfl, rfl, rfl, h0, h1, h2⟩ := open_agg3 Tryz.underlying25 (by kernel_rfl) iv_cellsT hv h
  obtain ⟨a, e0, -, wa⟩ := DataW.trod_int Tryz.underlying3 h0
  obtain ⟨b, e1, -, wb⟩ := DataW.trod_int Tryz.underlying3 h1
  simp at e0 e1
  subst e0 e1
  have hc : Cell.okWide Tryz.prog W .any base 23 v2 := by
    have h3 := hv
    unfold Value.okWide at h3
    rw [Tryz.underlying25] at h3
    obtain ⟨cs, hcs, -, ts, hts, -, hall⟩ := h3
    cases hcs
    have ht : Tryz.prog.cellTypes Tryz.prog.depth 25 = some [3, 3, 23] := by kernel_rfl
    rw [ht] at hts
    cases hts
    obtain ⟨u, hu, hok⟩ := hall 2 v2 rfl
    cases hu
    exact hok
  obtain ⟨q, c, S, rfl, hr, hu, hl, hm⟩ := open_u32sT hc h2
  exact ⟨a, b, q, c, S, rfl, hr, hu, hl, hm, wf_bounds wa, wf_bounds wb⟩

end Go.Proofs.YtajoipmchgabfaaGreat

/- The statements' own copy of a list of rectangles. -/
namespace Go.Proofs.YtajoipmchgabfaaGreat
open Go.RowKit

/-- A slice that reads so; nil has no room. -/
structure Rw (w : World) (v : Value) (xs : List Rc) : Prop where
  row : Row encR 4 w v xs
  nil : ∀ c, v = .slice none 0 c → c = 0

theorem Rw.below {w w1 : World} {v : Value} {xs : List Rc} (h : Rw w v xs) (hb : Below w.heap.size w w1) : Rw w1 v xs := ⟨h.row.below hb, h.nil⟩

theorem Rw.owned {w : World} {base : Nat} {v : Value} {xs : List Rc} (h : w.ownsRow base 37 4 v xs.length (flatR xs)) : Rw w v xs := ⟨owns_row' (enc := encR) (k := 4) (fun _ => rfl) h, owns_nil_cap h⟩

theorem Rw.src {w : World} {p : Option Addr} {n c : Nat} {xs : List Rc} (h : Rw w (.slice p n c) xs) : n = xs.length ∧ ((p = none ∧ n = 0 ∧ c = 0) ∨ ∃ ad, p = some ad ∧ ∀ j u, (flatR xs)[j]? = some u → w.cell? (ad.add j) = some u) := by
  obtain ⟨⟨p', c', e, h1, h2, h3⟩, hn⟩ := h
  cases e
  refine ⟨rfl, ?_⟩
  rcases h3 with ⟨rfl, rfl⟩ | ⟨b, off, rfl, h4, h5⟩
  · exact .inl ⟨rfl, rfl, hn _ rfl⟩
  · by_cases hx : xs = []
    · subst hx
      exact .inr ⟨_, rfl, fun j u hu => by simp [flatR] at hu⟩
    · obtain ⟨ad, e, hc⟩ := RowAt.srcR (xs := xs) (.inr ⟨b, off, rfl, h4, h5⟩) hx
      cases e
      exact .inr ⟨_, rfl, hc⟩

end Go.Proofs.YtajoipmchgabfaaGreat
