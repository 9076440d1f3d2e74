/- Several texts in one, each with its own head. -/
import Derived.Test.YtebfdoipogjpnaaGreatQd45
import Derived.Test.YtebfdoipogjpnaaGreatQd1
import Derived.ProofKit
import Derived.Lib.SmallJoins
import Derived.Test.YtebfdoipogjpnaaGreatQd4
import Derived.Deep.Slices
import Derived.Test.YtebfdoipogjpnaaGreatQd13
/- The walk of the statement DeflateBack. -/
namespace Go.Proofs.YtebfdoipogjpnaaGreat
open Go.RowKit Go.Maps

theorem pickP_pos {P Q : Pt} (h : 3 ≤ szP P) (k : 3 ≤ szP Q) : 3 ≤ szP (pickP P Q) := by
  unfold pickP
  split <;> assumption
theorem DefS.pos {b S : List Nat} (h : DefS b S) : 0 < S.length := by
  obtain ⟨ts, P, -, -, h5, rfl⟩ := h.ex
  have hP : 3 ≤ szP P := by
    obtain ⟨gA, gD, gC, -, -, -, e⟩ := h5.ex
    rw [e]
    unfold dynP
    simp only [szP_app, szP]; omega
  have hF : 3 ≤ szP (fixP ts) := by unfold fixP; simp only [szP_app, szP]; omega
  have hT : 3 ≤ szP (putB 0 (stB b)) := by rw [stB_sz]; omega
  have := pickP_pos (pickP_pos hT hF) hP
  rw [bytP_len]
  omega

theorem own_srcD {w : World} {v : Value} {l : List Nat} (h : Rw8 w v l) : ∃ p c, v = .slice p l.length c ∧ ((p = none ∧ l.length = 0 ∧ c = 0) ∨ ∃ ad, p = some ad ∧ ∀ j u, (l.map u8v)[j]? = some u → w.cell? (ad.add j) = some u) := by
  obtain ⟨p, c, e, -, -, hs⟩ := h.src enc8_len (by decide)
  rw [flat8] at hs
  exact ⟨p, c, e, hs⟩
theorem own_srcD' {w : World} {p : Option Addr} {n c : Nat} {l : List Nat} (h : Rw8 w (.slice p n c) l) : n = l.length ∧ ((p = none ∧ l.length = 0 ∧ c = 0) ∨ ∃ ad, p = some ad ∧ ∀ j u, (l.map u8v)[j]? = some u → w.cell? (ad.add j) = some u) := by
  obtain ⟨p', c', e, hs⟩ := own_srcD h
  cases e
  exact ⟨rfl, hs⟩

set_option maxRecDepth 20000 in
set_option maxHeartbeats 20000000 in
theorem dback_any (v0 : Value) (b : List Nat) (v1 : Value) (m : List Nat) (w : World) (hv0 : Rw8 w v0 b) (hb0 : ∀ x ∈ b, x < 256) (hv1 : Rw8 w v1 m) (hb1 : ∀ x ∈ m, x < 256) :
    Makes Tryz.prog 5 #[v0, v1] w (.bool true) := by
  unfold Makes
  have Hv0 := Lib.hid hv0
  have Hv1 := Lib.hid hv1
  have Hby := Lib.hid hb0
  have Hbm := Lib.hid hb1
  obtain ⟨p0, c0, rfl, -⟩ := hv0.cells
  obtain ⟨p1, c1, rfl, -⟩ := hv1.cells
  obtain ⟨i0, hi0, hz0, hz1, hz2⟩ := info_parts u8_info
  clear hv0 hv1 hb0 hb1
  obtain ⟨N, hN⟩ : ∃ N, b.length = N := ⟨_, rfl⟩
  obtain ⟨M, hM⟩ : ∃ M, m.length = M := ⟨_, rfl⟩
  have HN := Lib.hid hN
  have HM := Lib.hid hM
  rw [hN] at Hv0 ⊢
  rw [hM] at Hv1 ⊢
  clear hN hM
  go_enter Tryz.func5, Tryz.ntmps5
  by_cases hl : 6000 < N
  · have d0 : decide (6000 < N) = true := by simpa using hl
    have d0' : decide ((N : Int) > 6000) = true := by simp only [decide_eq_true_eq]; omega
    go_wp2
    go_ret
    exact ⟨rfl, Below.refl _ _⟩
  have d0 : decide (6000 < N) = false := by simpa using hl
  have d0' : decide ((N : Int) > 6000) = false := by simp only [decide_eq_false_iff_not]; omega
  by_cases hm : 200 < M
  · have d1 : decide (200 < M) = true := by simpa using hm
    have d1' : decide ((M : Int) > 200) = true := by simp only [decide_eq_true_eq]; omega
    go_wp2
    go_ret
    exact ⟨rfl, Below.refl _ _⟩
  have d1 : decide (200 < M) = false := by simpa using hm
  have d1' : decide ((M : Int) > 200) = false := by simp only [decide_eq_false_iff_not]; omega
  go_wp2_with fail
  refine Calls.mono (deflate_any _ b w Hv0.out Hby.out (by rw [HN.out]; omega)) ?_
  rintro _ w1 ⟨va, S, rfl, hS, hSl, ho1, hb1⟩
  have HS := Lib.hid (And.intro hS (And.intro hSl hS.pos))
  have Ho1 := Lib.hid ho1
  have Hb1 := Lib.hid hb1
  obtain ⟨ga, ca, cura, rfl, hga, hca, hza, -⟩ := owns_block ho1 hS.pos
  have hgal := lt_heap hza
  obtain ⟨n, hn⟩ : ∃ n, S.length = n := ⟨_, rfl⟩
  have Hn := Lib.hid hn
  have hn0 : 0 < n := by rw [← hn]; exact hS.pos
  rw [hn] at Ho1 hca hSl ⊢
  clear hS ho1 hb1 hn hza
  go_wp2_with fail
  refine Calls.mono (deflate_any _ b w1 (Hv0.out.below Hb1.out) Hby.out (by rw [HN.out]; omega)) ?_
  rintro _ w2 ⟨vt, S2, rfl, hS2, -, ho2, hb2⟩
  obtain rfl := HS.out.1.det hS2
  rw [Hn.out] at ho2
  have Ho2 := Lib.hid ho2
  obtain ⟨pt, ct, rfl⟩ := owns_slice ho2
  have Hr1 := Lib.hid (Rw8.own (owns_lower Ho1.out (Nat.le_refl _)) Hn.out.symm |>.below hb2)
  have Hb2 := Lib.hid (Below.thn Hb1.out hb2)
  have hs12 := hb2.size
  have Hb12 := Lib.hid hb2
  clear hS2 ho2 hb2
  have Hbe := Lib.hid (Below.al1 w2 (.cells #[] 5))
  have Hown := Lib.hid (show (w2.alloc (.cells #[] 5)).ownsRow w2.heap.size 5 1 (.slice (some ⟨w2.heap.size, 0, none⟩) 0 0) 0 [] from by
    simpa using World.ownsRow_lit (base := w2.heap.size) (size := 1) (e := 5) w2 #[] 0 (Nat.le_refl _) (Nat.zero_le _) rfl)
  have Hsrc := Lib.hid (own_srcD' (Hr1.out.below Hbe.out)).2
  rw [Hn.out] at Hsrc
  go_wp2_with (at_builtin; refine wpList_append_mine _ rfl (.tmp 33) (.tmp 34) 22 rfl w2.heap.size 5 i0 _ 1 1 Tryz.underlying22 hi0 hz0 hz1 hz2 rfl (by decide) (.slice (some ⟨w2.heap.size, 0, none⟩) 0 0) 0 [] rfl Hown.out (some ⟨ga, 0, none⟩) n ca (S.map u8v) rfl (by simp [Hn.out]) Hsrc.out (one8 _) ?n3 ?n4 ?n5 ?_)
  case n3 => simp only [maxLen]; omega
  case n4 => omega
  case n5 => simp
  intro v5 w5 ho5 hg5 _
  have ht5 := Turns.of_grown (T := fun q => q = w2.heap.size) hg5 (fun i h => by cases h; rfl)
  have hb5 : Below w2.heap.size w2 w5 := Hbe.out.trans (ht5.below Hbe.out.size (fun i h => by omega))
  replace ho5 : w5.ownsRow w2.heap.size 5 1 v5 n (S.map u8v) := by simpa using ho5
  obtain ⟨p5, c5, rfl⟩ := owns_slice ho5
  have Ho5 := Lib.hid ho5
  have Hb5 := Lib.hid hb5
  have hs5 : w2.heap.size ≤ w5.heap.size := hb5.size
  have Hsrcb := Lib.hid (own_srcD' (Hv1.out.below (Below.thn Hb2.out hb5))).2
  rw [HM.out] at Hsrcb
  clear ho5 hg5 ht5 hb5 Hsrc Hown Hbe
  go_wp2_with (at_builtin; refine wpList_append_mine _ rfl (.tmp 35) (.tmp 36) 22 rfl w2.heap.size 5 i0 _ 1 1 Tryz.underlying22 hi0 hz0 hz1 hz2 rfl (by decide) (.slice p5 n c5) n (S.map u8v) rfl Ho5.out p1 M c1 (m.map u8v) rfl (by simp [HM.out]) Hsrcb.out (one8 _) ?m3 ?m4 hs5 ?_)
  case m3 => simp only [maxLen]; omega
  case m4 => omega
  intro v6 w6 ho6 hg6 _
  have hb6 : Below w2.heap.size w2 w6 := Hb5.out.trans ((Turns.of_grown (T := fun q => (Value.slice p5 n c5).ownBlock = some q) hg6 (fun i h => h)).below hs5 (fun i h => (Ho5.out.lt i h).1))
  rw [← List.map_append] at ho6
  have hl6 : (S ++ m).length = n + M := by rw [List.length_append, Hn.out, HM.out]
  have HR6 : Hid (Rw8 w6 v6 (S ++ m)) := Lib.hid (Rw8.own ho6 hl6.symm)
  obtain ⟨p6, c6, rfl⟩ := owns_slice ho6
  have Hb6 := Lib.hid hb6
  have Hby6 : Hid (∀ x ∈ S ++ m, x < 256) := Lib.hid (fun x hx => by
    rcases List.mem_append.1 hx with hx | hx
    · exact HS.out.1.lt x hx
    · exact Hbm.out x hx)
  have Hl6 := Lib.hid (show (S ++ m).length ≤ 1073741824 by rw [hl6]; omega)
  have Hfin := Lib.hid (HS.out.1.infl Hby.out (by rw [HN.out]; omega) m (lim := N) (by omega) (by rw [HN.out]; exact Nat.le_refl _))
  clear ho6 hg6 hb6 hl6 Ho5 Hsrcb Hb5 hi0 hz0 hz1 hz2 hs5
  go_wp2_with fail
  refine Calls.mono (infl_any _ (S ++ m) N w6 HR6.out Hby6.out Hl6.out) ?_
  rintro _ w7 ⟨o7, k7, er7, ov7, hi7, rfl, ho7, hb7⟩
  obtain ⟨rfl, rfl, rfl⟩ := hi7.det Hfin.out
  have Hb27 := Lib.hid (Below.thn Hb6.out hb7)
  have hst7 := strI_row (Rw8.own ho7 rfl).row
  have hstb := strI_row (Hv0.out.below (Below.thn Hb2.out Hb27.out)).row
  have hsts := strI_row (Hr1.out.below Hb27.out).row
  have hstt := strI_row ((Rw8.own Ho2.out Hn.out.symm).below Hb27.out).row
  obtain ⟨p7, c7, rfl⟩ := owns_slice ho7
  obtain ⟨X, hX⟩ : ∃ X, strI o7 = X := ⟨_, rfl⟩
  obtain ⟨Y, hY⟩ : ∃ Y, strI S = Y := ⟨_, rfl⟩
  rw [hX] at hst7 hstb
  rw [hY] at hsts hstt
  rw [HN.out] at hst7 ⊢
  rw [Hn.out]
  have Hb7 := Lib.hid (Below.thn Hb2.out Hb27.out)
  have d5 : ((n : Int) != (n : Int)) = false := by simp
  have dn : decide (0 < n) = true := by simpa using hn0
  have dn' : decide ((n : Int) > 0) = true := by simp; omega
  have hT17 : Turns (fun _ => False) w1 w7 := (Turns.of_below' (T := fun _ => False) Hb12.out).trans (Turns.of_below' Hb27.out)
  have ho7' := hT17.owns Ho1.out (fun _ _ h => h)
  have hot7 := (Turns.of_below' (T := fun _ => False) Hb27.out).owns Ho2.out (fun _ _ h => h)
  obtain ⟨ga', ca', cur7, e7, -, -, hz7, hq7⟩ := owns_block ho7' hn0
  cases e7
  have xs : w7.cell? ⟨ga, 0, none⟩ = some (.int .u8 ((S.getD 0 0 : Nat) : Int)) := cell_heap hz7 (hq7 0 _ (by
    have h0 : 0 < S.length := HS.out.2.2
    rw [List.getElem?_map, List.getElem?_eq_getElem h0, List.getD_eq_getElem?_getD, List.getElem?_eq_getElem h0]; rfl))
  have xf : w7.frozen? ⟨ga, 0, none⟩ = false := by simp [World.frozen?, hz7]
  obtain ⟨x, hx⟩ : ∃ x, S.getD 0 0 = x := ⟨_, rfl⟩
  rw [hx] at xs
  obtain ⟨y, hy⟩ : ∃ y, IntKind.u8.wrap ((x : Int) + 1) = y := ⟨_, rfl⟩
  obtain ⟨w8, hw8⟩ : ∃ w8, w7.setCell ⟨ga, 0, none⟩ (.int .u8 y) = w8 := ⟨_, rfl⟩
  have Hb8 : Hid (Below w.heap.size w w8) := Lib.hid (by rw [← hw8]; exact Hb7.out.setCell (p := ⟨ga, 0, none⟩) hga _)
  have Hot8 : Hid (w8.ownsRow w1.heap.size 5 1 (.slice pt n ct) n (S.map u8v)) := Lib.hid (by
    rw [← hw8]
    exact ((Turns.refl (fun b => b = ga) w7).set (p := ⟨ga, 0, none⟩) rfl (.int .u8 y)).owns hot7 (fun k hk e => by have := (hot7.lt k hk).1; omega))
  have Hw8 := Lib.hid hw8
  clear ho7 hi7 hb7 hT17 ho7' hot7 hz7 hq7 hx hX hY hw8 HR6 Hby6 Hl6 Hfin Hr1 Ho1 Ho2 Hb6 Hb27 Hb12 Hb2 Hb7
  go_upto_region 10 with (fail)
  rw [Hw8.out]
  clear xs xf
  go_wp2_with fail
  refine Calls.mono (deflate_any _ o7 w8 (Hv0.out.below Hb8.out) Hby.out (by rw [HN.out]; omega)) ?_
  rintro _ w9 ⟨vu, S3, rfl, hS3, -, ho9, hb9⟩
  obtain rfl := HS.out.1.det hS3
  have hst9 := strI_row (Rw8.own ho9 rfl).row
  have hstt9 := strI_row ((Rw8.own Hot8.out Hn.out.symm).below hb9).row
  obtain ⟨p9, c9, rfl⟩ := owns_slice ho9
  obtain ⟨Z, hZ⟩ : ∃ Z, strI S = Z := ⟨_, rfl⟩
  rw [hZ] at hst9 hstt9
  rw [Hn.out] at hst9 ⊢
  have Hb9 := Lib.hid (Below.thn Hb8.out hb9)
  clear hS3 ho9 hb9 hZ hsts hstt hst7 hstb
  go_wp2_with fail
  refine Calls.mono (dlays_law w9) ?_
  rintro _ w10 ⟨rfl, hb10⟩
  have Hb10 := Lib.hid (Below.thn Hb9.out hb10)
  clear hb10
  go_wp2
  go_ret
  exact ⟨rfl, Hb10.out⟩

end Go.Proofs.YtebfdoipogjpnaaGreat

/- From a walk that ends in true, and that changes nothing that was there, to what a statement says: whatever the arguments, they read behind the call as they read before. Nothing here speaks of one function. -/
namespace Go.Proofs.YtebfdoipogjpnaaGreat
open Go.ChangeShapes Go.WideShapes Go.ChangeAt Go.RowKit Go.Joins

theorem Tryz.own : ownKnob Tryz.prog.godebug = none := by kernel_rfl
theorem Tryz.laidOut : laidOutB Tryz.prog = true := by kernel_rfl

/-- Arguments read behind a call that keeps all that was there as they read before it. -/
theorem trodAll_below {H : Type} {enc : TypeId × Value → H} {P : Program} (hl : laidOutB P = true) {W W' : World} (hb : Below W.heap.size W W') :
    ∀ (ts : List TypeId) (vs : List Value) (ds : List (DataW H)) (ps : List MemPlace), (∀ t ∈ ts, P.readableRec t = true ∧ t < P.types.size) → DataW.TrodAll enc P W 0 (fun _ => true) true ts vs ds ps → (∀ x ∈ ps, x.block < W.heap.size) →
      DataW.TrodAll enc P W' 0 (fun b => decide (b < W.heap.size)) true ts vs ds ps
  | [], _, _, _, _, h, _ => by
    obtain ⟨rfl, rfl, rfl⟩ := trodAll_nil h
    exact trodAll_mk0
  | t :: ts, _, _, _, hr, h, hlt => by
    obtain ⟨v, vs', d, ds', p, q, rfl, rfl, rfl, h1, h2⟩ := trodAll_cons h
    have ht := hr t (by simp)
    exact trodAll_cons_mk (Below.trod hl ht.1 ht.2 h1 hb (fun x hx => hlt x (by simp [hx]))) (trodAll_below hl hb ts vs' ds' q (fun t' h' => hr t' (by simp [h'])) h2 (fun x hx => hlt x (by simp [hx])))

/-- What a statement asks behind the call, where the call answers true and keeps all that was there. -/
theorem law_post {H : Type} {enc : TypeId × Value → H} {f : Func} {s : ChangeSpec} (tb : TypeId) {W W' : World} {args : Array Value} {ds gs : List (DataW H)} {before : List MemPlace}
    (hread : ∀ t ∈ f.params.toList, Tryz.prog.readableRec t = true ∧ t < Tryz.prog.types.size) (hrt : f.resultTypes = #[tb]) (hub : Tryz.prog.underlying tb = some .bool) (hv : s.vars = [])
    (hW : DataW.Whole enc Tryz.prog f.params.toList s.vars false W args.toList ds gs before) (hr : (s.fn H (ds ++ gs)).results = [.lit (.bool true)]) (ha : (s.fn H (ds ++ gs)).args = ds) (hvs : (s.fn H (ds ++ gs)).vars = [])
    (hb : Below W.heap.size W W') : s.post enc Tryz.prog f false true false false W args (.bool true) W' := by
  have hlt := hW.lt
  have hW' := hW
  obtain ⟨p, q, hA, hV, rfl, hfz, hnd⟩ := hW
  rw [hv] at hV
  obtain ⟨rfl, rfl⟩ := trodVars_none hV
  refine ⟨_, _, _, [], p, [], hW', ?_, ?_, ?_, hb.frame _, fun h => by cases h⟩
  · rw [hr, hrt]
    exact trodAll_mk1 (shut_bool hub true)
  · rw [ha]
    exact trodAll_below Tryz.laidOut hb _ _ _ _ hread hA (fun x hx => by simpa using hlt x (by simp [hx]))
  · rw [hvs, hv]
    rfl

theorem trodAll_four_mine {H : Type} {enc : TypeId × Value → H} {P : Program} {w : World} {base : Nat} {spare : Nat → Bool} {held : Bool} {t0 t1 t2 t3 : TypeId} {args : Array Value} {ds : List (DataW H)} {ps : List MemPlace} (h : DataW.TrodAll enc P w base spare held [t0, t1, t2, t3] args.toList ds ps) :
    ∃ v0 v1 v2 v3 d0 d1 d2 d3 p0 p1 p2 p3, args = #[v0, v1, v2, v3] ∧ ds = [d0, d1, d2, d3] ∧ ps = p0 ++ (p1 ++ (p2 ++ p3)) ∧ DataW.Trod enc P w base spare held t0 v0 d0 p0 ∧ DataW.Trod enc P w base spare held t1 v1 d1 p1 ∧ DataW.Trod enc P w base spare held t2 v2 d2 p2 ∧ DataW.Trod enc P w base spare held t3 v3 d3 p3 := by
  obtain ⟨v0, vs0, d0, ds0, p0, q0, hargs, rfl, rfl, h0, r0⟩ := trodAll_cons h
  obtain ⟨v1, vs1, d1, ds1, p1, q1, rfl, rfl, rfl, h1, r1⟩ := trodAll_cons r0
  obtain ⟨v2, vs2, d2, ds2, p2, q2, rfl, rfl, rfl, h2, r2⟩ := trodAll_cons r1
  obtain ⟨v3, vs3, d3, ds3, p3, q3, rfl, rfl, rfl, h3, r3⟩ := trodAll_cons r2
  obtain ⟨rfl, rfl, rfl⟩ := trodAll_nil r3
  exact ⟨v0, v1, v2, v3, d0, d1, d2, d3, p0, p1, p2, p3, by cases args; simp_all, rfl, by simp, h0, h1, h2, h3⟩

theorem trodAll_five_mine {H : Type} {enc : TypeId × Value → H} {P : Program} {w : World} {base : Nat} {spare : Nat → Bool} {held : Bool} {t0 t1 t2 t3 t4 : TypeId} {args : Array Value} {ds : List (DataW H)} {ps : List MemPlace} (h : DataW.TrodAll enc P w base spare held [t0, t1, t2, t3, t4] args.toList ds ps) :
    ∃ v0 v1 v2 v3 v4 d0 d1 d2 d3 d4 p0 p1 p2 p3 p4, args = #[v0, v1, v2, v3, v4] ∧ ds = [d0, d1, d2, d3, d4] ∧ ps = p0 ++ (p1 ++ (p2 ++ (p3 ++ p4))) ∧ DataW.Trod enc P w base spare held t0 v0 d0 p0 ∧ DataW.Trod enc P w base spare held t1 v1 d1 p1 ∧ DataW.Trod enc P w base spare held t2 v2 d2 p2 ∧ DataW.Trod enc P w base spare held t3 v3 d3 p3 ∧ DataW.Trod enc P w base spare held t4 v4 d4 p4 := by
  obtain ⟨v0, vs0, d0, ds0, p0, q0, hargs, rfl, rfl, h0, r0⟩ := trodAll_cons h
  obtain ⟨v1, vs1, d1, ds1, p1, q1, rfl, rfl, rfl, h1, r1⟩ := trodAll_cons r0
  obtain ⟨v2, vs2, d2, ds2, p2, q2, rfl, rfl, rfl, h2, r2⟩ := trodAll_cons r1
  obtain ⟨v3, vs3, d3, ds3, p3, q3, rfl, rfl, rfl, h3, r3⟩ := trodAll_cons r2
  obtain ⟨v4, vs4, d4, ds4, p4, q4, rfl, rfl, rfl, h4, r4⟩ := trodAll_cons r3
  obtain ⟨rfl, rfl, rfl⟩ := trodAll_nil r4
  exact ⟨v0, v1, v2, v3, v4, d0, d1, d2, d3, d4, p0, p1, p2, p3, p4, by cases args; simp_all, rfl, by simp, h0, h1, h2, h3, h4⟩

theorem wf_bounds {n : Int} (h : (Lit.int .i64 n).wf = true) : -9223372036854775808 ≤ n ∧ n ≤ 9223372036854775807 := by
  have hm : IntKind.i64.min = -9223372036854775808 := by decide
  simpa [Lit.wf, hm] using h

theorem wf_u8b {n : Int} (h : (Lit.int .u8 n).wf = true) : 0 ≤ n ∧ n ≤ 255 := by
  have hm : IntKind.u8.min = 0 := by decide
  have hx : IntKind.u8.max = 255 := by decide
  simpa [Lit.wf, hm, hx] using h

theorem wf_u32b {n : Int} (h : (Lit.int .u32 n).wf = true) : 0 ≤ n ∧ n < 4294967296 := by
  have hm : IntKind.u32.min = 0 := by decide
  have hx : IntKind.u32.max = 4294967295 := by decide
  have := h
  simp [Lit.wf, hm, hx] at this
  omega

end Go.Proofs.YtebfdoipogjpnaaGreat

/- A slice that comes in as an argument, of elements of any kind that can be opened: what it reads as. -/
namespace Go.Proofs.YtebfdoipogjpnaaGreat
open Go.ChangeShapes Go.WideShapes Go.ChangeAt Go.RowKit Go.Joins Go.Deep

set_option maxRecDepth 100000 in
theorem open_rows {α : Type} [Inhabited α] {ec : α → List Value} {k : Nat} {Good : α → Prop} {H : Type} {enc : TypeId × Value → H} {W : World} {base : Nat} {v : Value} {d : DataW H} {p : List MemPlace} {t e : TypeId}
    (ht : Tryz.prog.underlying t = some (.slice e)) (hk : Tryz.prog.cellsOf e = k)
    (hat : ∀ (n : Nat) (a : Addr) (D : DataW H) (Pl : List MemPlace) (cs : List Value), W.cells? 0 a k = some cs → DataW.trod enc Tryz.prog W 0 (fun _ => true) true n e cs = some (D, Pl) → ∃ x : α, Good x ∧ ∀ j u, (ec x)[j]? = some u → W.cell? (a.add j) = some u)
    (hv : Value.okWide Tryz.prog W .any base t v) (h : DataW.Trod enc Tryz.prog W 0 (fun _ => true) true t v d p) :
    ∃ xs : List α, RwG ec k W v xs ∧ ∀ x ∈ xs, Good x := by
  obtain ⟨a0, len, cap, rfl⟩ := okWide_slice ht hv
  obtain ⟨fuel, hf⟩ := h
  rcases open_slice ht hf with ⟨hcs, -⟩ | ⟨a, len', cap', m, n, D, Pl, hcs, hb, hl, hm, hmm, hx, hi⟩
  · simp [Value.cells] at hcs
    obtain ⟨rfl, rfl, rfl⟩ := hcs
    exact ⟨[], ⟨⟨none, 0, rfl, Nat.le_refl _, by simp [maxLen], .inl ⟨rfl, rfl⟩⟩, fun c h => by cases h; rfl⟩, fun r h => by cases h⟩
  · simp [Value.cells] at hcs
    obtain ⟨rfl, rfl, rfl⟩ := hcs
    have hh : W.has Tryz.prog .any base a e cap := by
      have h1 := hv
      unfold Value.okWide at h1
      rw [ht] at h1
      simp only [Cell.okWide, ht, Cell.ok] at h1
      exact h1.2.2
    obtain ⟨-, hspot, row, cells, hsh, -⟩ := hh
    have hlt : a.block < W.heap.size := by
      unfold World.shape? at hsh
      cases hq : W.heap[a.block]? with
      | none => rw [hq] at hsh; cases hsh
      | some o => exact (Array.getElem?_eq_some_iff.1 hq).1
    obtain ⟨ab, ao, asp⟩ := a
    dsimp only at hspot hlt
    subst hspot
    rw [hk] at hi
    have H : ∀ i, i < len → ∃ r : α, Good r ∧ ∀ j u, (ec r)[j]? = some u → W.cell? ((⟨ab, ao, none⟩ : Addr).add (i * k) |>.add j) = some u := fun i him => by
      obtain ⟨cs', hc, ht⟩ := hi i (by rw [hmm]; simp; omega)
      exact hat _ _ _ _ _ hc ht
    obtain ⟨f, hf'⟩ : ∃ f : Nat → α, ∀ i, i < len → Good (f i) ∧ ∀ j u, (ec (f i))[j]? = some u → W.cell? ((⟨ab, ao, none⟩ : Addr).add (i * k) |>.add j) = some u := by
      classical
      refine ⟨fun i => if h : i < len then Classical.choose (H i h) else default, fun i him => ?_⟩
      simp only [him, dif_pos]
      exact Classical.choose_spec (H i him)
    have hln : ((List.range len).map f).length = len := by simp
    refine ⟨(List.range len).map f, ⟨⟨_, cap, by rw [hln], by rw [hln]; exact hl, hm, .inr ⟨_, _, rfl, hlt, fun i x hx j u hu => ?_⟩⟩, fun c h => by cases h⟩, fun r hr => ?_⟩
    · rw [List.getElem?_map] at hx
      cases hr : (List.range len)[i]? with
      | none => rw [hr] at hx; cases hx
      | some q =>
        rw [hr] at hx
        obtain ⟨hlt2, hq⟩ := List.getElem?_eq_some_iff.1 hr
        rw [List.getElem_range] at hq
        subst hq
        cases hx
        have h4 := (hf' i (by simpa using hlt2)).2 j u hu
        rw [Addr.add_lit, Addr.add_lit] at h4
        exact h4
    · obtain ⟨i, hi', rfl⟩ := List.mem_map.1 hr
      exact (hf' i (by simpa using hi')).1

end Go.Proofs.YtebfdoipogjpnaaGreat

/- Slices of ints, bytes and uint16 that come in as arguments. -/
namespace Go.Proofs.YtebfdoipogjpnaaGreat
open Go.ChangeShapes Go.WideShapes Go.ChangeAt Go.RowKit Go.Joins Go.Deep

set_option maxRecDepth 100000 in
theorem int_at {H : Type} {enc : TypeId × Value → H} {W : World} (n : Nat) (a : Addr) (D : DataW H) (Pl : List MemPlace) (cs : List Value) (hc : W.cells? 0 a 1 = some cs) (ht : DataW.trod enc Tryz.prog W 0 (fun _ => true) true n 3 cs = some (D, Pl)) :
    ∃ x : Int, True ∧ ∀ j u, (encZ x)[j]? = some u → W.cell? (a.add j) = some u := by
  obtain ⟨-, hl, hat⟩ := World.cells?_some hc
  match cs, hl with
  | [c0], _ =>
    obtain ⟨x, e0, -, wf⟩ := DataW.trod_int Tryz.underlying3 ht
    simp at e0
    subst e0
    refine ⟨x, trivial, fun j u hu => ?_⟩
    have hj : j < 1 := by
      have := (List.getElem?_eq_some_iff.1 hu).1
      simpa [encZ] using this
    rw [hat j hj]
    exact hu

set_option maxRecDepth 100000 in
theorem open_ints {H : Type} {enc : TypeId × Value → H} {W : World} {base : Nat} {v : Value} {d : DataW H} {p : List MemPlace} (hv : Value.okWide Tryz.prog W .any base 44 v) (h : DataW.Trod enc Tryz.prog W 0 (fun _ => true) true 44 v d p) :
    ∃ xs : List Int, RwG encZ 1 W v xs := by
  obtain ⟨xs, h1, -⟩ := open_rows Tryz.underlying44 (by kernel_rfl) int_at hv h
  exact ⟨xs, h1⟩

set_option maxRecDepth 100000 in
theorem byte_atH {H : Type} {enc : TypeId × Value → H} {W : World} (n : Nat) (a : Addr) (D : DataW H) (Pl : List MemPlace) (cs : List Value) (hc : W.cells? 0 a 1 = some cs) (ht : DataW.trod enc Tryz.prog W 0 (fun _ => true) true n 5 cs = some (D, Pl)) :
    ∃ x : Nat, x < 256 ∧ ∀ j u, (enc8 x)[j]? = some u → W.cell? (a.add j) = some u := by
  obtain ⟨-, hl, hat⟩ := World.cells?_some hc
  match cs, hl with
  | [c0], _ =>
    obtain ⟨x, e0, -, wf⟩ := DataW.trod_int Tryz.underlying5 ht
    simp at e0
    subst e0
    have hb := wf_u8b wf
    obtain ⟨m, rfl⟩ := Int.eq_ofNat_of_zero_le hb.1
    refine ⟨m, by omega, fun j u hu => ?_⟩
    have hj : j < 1 := by
      have := (List.getElem?_eq_some_iff.1 hu).1
      simpa [enc8] using this
    rw [hat j hj]
    exact hu

set_option maxRecDepth 100000 in
theorem open_bytesH {H : Type} {enc : TypeId × Value → H} {W : World} {base : Nat} {v : Value} {d : DataW H} {p : List MemPlace} (hv : Value.okWide Tryz.prog W .any base 22 v) (h : DataW.Trod enc Tryz.prog W 0 (fun _ => true) true 22 v d p) :
    ∃ xs : List Nat, Rw8 W v xs ∧ ∀ x ∈ xs, x < 256 :=
  open_rows Tryz.underlying22 (by kernel_rfl) byte_atH hv h

def enc16 (b : Nat) : List Value := [.int .u16 (b : Int)]
theorem enc16_len (b : Nat) : (enc16 b).length = 1 := rfl

theorem wf_u16b {x : Int} (h : (Lit.int .u16 x).wf = true) : 0 ≤ x ∧ x ≤ 65535 := by
  have hm : IntKind.u16.min = 0 := by decide
  have hx : IntKind.u16.max = 65535 := by decide
  simpa [Lit.wf, hm, hx] using h

set_option maxRecDepth 100000 in
theorem u16_at {H : Type} {enc : TypeId × Value → H} {W : World} (n : Nat) (a : Addr) (D : DataW H) (Pl : List MemPlace) (cs : List Value) (hc : W.cells? 0 a 1 = some cs) (ht : DataW.trod enc Tryz.prog W 0 (fun _ => true) true n 33 cs = some (D, Pl)) :
    ∃ x : Nat, x < 65536 ∧ ∀ j u, (enc16 x)[j]? = some u → W.cell? (a.add j) = some u := by
  obtain ⟨-, hl, hat⟩ := World.cells?_some hc
  match cs, hl with
  | [c0], _ =>
    obtain ⟨x, e0, -, wf⟩ := DataW.trod_int Tryz.underlying33 ht
    simp at e0
    subst e0
    have hb := wf_u16b wf
    obtain ⟨m, rfl⟩ := Int.eq_ofNat_of_zero_le hb.1
    refine ⟨m, by omega, fun j u hu => ?_⟩
    have hj : j < 1 := by
      have := (List.getElem?_eq_some_iff.1 hu).1
      simpa [enc16] using this
    rw [hat j hj]
    exact hu

set_option maxRecDepth 100000 in
theorem open_u16s {H : Type} {enc : TypeId × Value → H} {W : World} {base : Nat} {v : Value} {d : DataW H} {p : List MemPlace} (hv : Value.okWide Tryz.prog W .any base 100 v) (h : DataW.Trod enc Tryz.prog W 0 (fun _ => true) true 100 v d p) :
    ∃ xs : List Nat, RwG enc16 1 W v xs ∧ ∀ x ∈ xs, x < 65536 :=
  open_rows Tryz.underlying100 (by kernel_rfl) u16_at hv h

end Go.Proofs.YtebfdoipogjpnaaGreat

/- deflate, plainly: what a row of one byte takes in the fixed form. -/
namespace Go.Proofs.YtebfdoipogjpnaaGreat
open Go.RowKit

def costF (ts : List Tk) : Nat := szP ((ts.flatMap paT).flatMap (plP [fixA, fixD]))
theorem costF_cons (t : Tk) (ts : List Tk) : costF (t :: ts) = szP ((paT t).flatMap (plP [fixA, fixD])) + costF ts := by
  unfold costF
  rw [List.flatMap_cons, List.flatMap_append, szP_app]
theorem fixP_cost (ts : List Tk) : szP (fixP ts) = 10 + costF ts := by
  have e : szP (plP [fixA, fixD] ⟨0, 256, 0, 0⟩) = 7 := by decide +kernel
  have e2 : ([⟨0, 256, 0, 0⟩] : List Pa).flatMap (plP [fixA, fixD]) = plP [fixA, fixD] ⟨0, 256, 0, 0⟩ := by simp
  unfold fixP costF pasT
  rw [szP_app, List.flatMap_append, szP_app, e2, e]
  simp only [szP]; omega
theorem lit_cost (c : Nat) (hc : c < 256) : szP ((paT ⟨c, 0, 0⟩).flatMap (plP [fixA, fixD])) ≤ 9 := by
  have h := fixG_le c (by omega)
  have e : paT ⟨c, 0, 0⟩ = [⟨0, c, 0, 0⟩] := rfl
  rw [e, List.flatMap_cons, List.flatMap_nil, List.append_nil]
  show lq fixA c + (0 + 0) ≤ 9
  rw [fixA_lq]
  omega
theorem rep_bits : ∀ n, n < 259 → 3 ≤ n → fixG (lnSym n) + lnBits (lnSym n) + 5 ≤ (if n = 258 then 13 else 18) := by decide +kernel
theorem far_one : dsSym 1 = 0 ∧ dsBits 0 = 0 ∧ lq fixD 0 = 5 := by decide +kernel
theorem rep_cost (n : Nat) (h3 : 3 ≤ n) (h : n < 259) : szP ((paT ⟨0, n, 1⟩).flatMap (plP [fixA, fixD])) ≤ if n = 258 then 13 else 18 := by
  have h1 := rep_bits n h h3
  obtain ⟨d1, d2, d3⟩ := far_one
  have e : paT ⟨0, n, 1⟩ = [lnP n, dsP 1] := by
    unfold paT
    rw [if_neg (by simp; omega)]
    rfl
  rw [e, List.flatMap_cons, List.flatMap_cons, List.flatMap_nil, List.append_nil, szP_app]
  have e1 : szP (plP [fixA, fixD] (lnP n)) = lq fixA (lnSym n) + lnBits (lnSym n) := rfl
  have e2 : szP (plP [fixA, fixD] (dsP 1)) = lq fixD (dsSym 1) + dsBits (dsSym 1) := rfl
  rw [e1, e2, fixA_lq, d1, d2, d3]
  exact h1
def cR (m : Nat) : Nat := 13 * (m / 258) + (if m % 258 ≤ 2 then 9 * (m % 258) else 18)
theorem cR_step {m : Nat} (h : 258 ≤ m) : 13 + cR (m - 258) = cR m := by
  unfold cR
  have e1 : m / 258 = (m - 258) / 258 + 1 := by omega
  have e2 : m % 258 = (m - 258) % 258 := by omega
  rw [e1, e2]
  omega
theorem cR_le (m : Nat) : cR m ≤ 13 * (m / 258) + 18 := by
  unfold cR
  split <;> omega
theorem row_cost {c N : Nat} (hc : c < 256) {a : Nat} {ts : List Tk} (h : Toks (fb (List.replicate N c)) N a ts) : 0 < a → costF ts ≤ cR (N - a) := by
  have hf : ∀ i, i < N → fb (List.replicate N c) i = c := fun i hi => by
    rw [fb_at (by simpa using hi)]; simp
  induction h with
  | nil => intro _; exact Nat.zero_le _
  | @cons a t l ha ht hl ih =>
    intro h0
    have ht' := tok_row ht ha hf
    rw [costF_cons]
    by_cases h3 : 3 ≤ N - a
    · rw [if_pos ⟨h0, h3⟩] at ht'
      subst ht'
      have hs : Tk.size ⟨0, ((min (N - a) 258 : Nat) : Int), 1⟩ = min (N - a) 258 := by unfold Tk.size; simp; omega
      rw [hs] at ih
      have hr := rep_cost (min (N - a) 258) (by omega) (by omega)
      have hi := ih (by omega)
      by_cases hb : 258 ≤ N - a
      · have e : min (N - a) 258 = 258 := by omega
        rw [e] at hr hi ⊢
        rw [if_pos rfl] at hr
        have := cR_step hb
        rw [show N - (a + 258) = N - a - 258 by omega] at hi
        omega
      · have e : min (N - a) 258 = N - a := by omega
        rw [e] at hr hi ⊢
        rw [if_neg (by omega)] at hr
        have e0 : N - (a + (N - a)) = 0 := by omega
        rw [e0] at hi
        have e1 : cR 0 = 0 := rfl
        have e2 : cR (N - a) = 18 := by
          unfold cR
          rw [if_neg (by omega)]
          omega
        omega
    · rw [if_neg (fun h => h3 h.2)] at ht'
      subst ht'
      have hs : Tk.size ⟨c, 0, 0⟩ = 1 := rfl
      rw [hs] at ih
      have hi := ih (by omega)
      have hl := lit_cost c hc
      have e1 : cR (N - a) = 9 * (N - a) := by
        unfold cR
        rw [if_pos (by omega)]
        omega
      have e2 : cR (N - (a + 1)) = 9 * (N - (a + 1)) := by
        unfold cR
        rw [if_pos (by omega)]
        omega
      omega
/-- A row of one byte is small. -/
theorem row_small {c N : Nat} (hc : c < 256) {S : List Nat} (h : DefS (List.replicate N c) S) : 8 * S.length ≤ 13 * (N / 258) + 60 := by
  have hk := toksC_is (fb (List.replicate N c)) N N 0 (Nat.zero_le _) (by omega)
  generalize toksC (fb (List.replicate N c)) N N 0 = ts at hk
  have hsm := (h.small (ts := ts) (by rw [List.length_replicate]; exact hk)).2
  rw [fixP_cost] at hsm
  have hcost : costF ts ≤ 27 + 13 * (N / 258) := by
    cases hk with
    | nil => exact Nat.zero_le _
    | @cons _ t l ha ht hl =>
      have hf : ∀ i, i < N → fb (List.replicate N c) i = c := fun i hi => by
        rw [fb_at (by simpa using hi)]; simp
      have ht' := tok_row ht ha hf
      rw [if_neg (fun h => absurd h.1 (by decide))] at ht'
      subst ht'
      have h1 := row_cost hc hl (by show 0 < 0 + 1; omega)
      have h2 := lit_cost c hc
      have h3 := cR_le (N - (0 + Tk.size ⟨c, 0, 0⟩))
      have hs : Tk.size ⟨c, 0, 0⟩ = 1 := rfl
      rw [hs] at h1 h3
      rw [costF_cons]
      have : (N - (0 + 1)) / 258 ≤ N / 258 := Nat.div_le_div_right (by omega)
      omega
  omega

end Go.Proofs.YtebfdoipogjpnaaGreat
