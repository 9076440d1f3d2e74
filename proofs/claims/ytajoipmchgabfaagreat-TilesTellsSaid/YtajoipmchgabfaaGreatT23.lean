/- Several texts in one, each with its own head. -/
import Derived.Test.YtajoipmchgabfaaGreatT21
import Derived.Test.YtajoipmchgabfaaGreatT22
import Derived.Test.YtajoipmchgabfaaGreatT18
import Derived.Test.YtajoipmchgabfaaGreatT4
/- tiles: all and Grid. -/
namespace Go.Proofs.YtajoipmchgabfaaGreat
open Go.RowKit

attribute [local go_sem] Oper.semAt_some

theorem tlAll_any (w h : Int) (W : World) : Calls Tryz.prog 16 #[.int .i64 w, .int .i64 h] W fun e w' => ∃ Bp Bt, e = .returned (.func (.func 40) #[] #[.pointer (some ⟨Bp, 0, none⟩), .pointer (some ⟨Bt, 0, none⟩)]) ∧ W.heap.size ≤ Bp ∧ W.heap.size ≤ Bt ∧ Lies w' Bp (pcR (szW w h) (szH w h)) ∧ Lies w' Bt (pcR (szW w h) (szH w h)) ∧ Bp < w'.heap.size ∧ Bt < w'.heap.size ∧ Below W.heap.size W w' := by
  obtain ⟨P, hP⟩ : ∃ P, pcR (szW w h) (szH w h) = P := ⟨_, rfl⟩
  have hw := fun W => tlWhole_any w h W
  rw [hP] at hw ⊢
  have Hw := Lib.hid hw
  clear hw hP
  go_enter Tryz.func16, Tryz.ntmps16
  go_wp2_with fail
  refine Calls.mono (Hw.out _) ?_
  rintro _ w1 ⟨rfl, hb1⟩
  have Hb1 := Lib.hid hb1
  clear hb1 Hw
  go_upto_region 2 with (fail)
  have hl : Lies (w1.alloc (.cells #[.int .i64 P.x, .int .i64 P.y, .int .i64 P.a, .int .i64 P.b] 37)) w1.heap.size P := Lies.new rfl
  have hb2 := Below.al1 w1 (.cells #[.int .i64 P.x, .int .i64 P.y, .int .i64 P.a, .int .i64 P.b] 37)
  have Hb2 := Lib.hid (Below.thn Hb1.out hb2)
  generalize w1.alloc (.cells #[.int .i64 P.x, .int .i64 P.y, .int .i64 P.a, .int .i64 P.b] 37) = w2 at *
  obtain ⟨c0, c1, c2, c3⟩ := hl
  clear hb2
  go_wp2_with fail
  refine Calls.mono (under_made P P w2) ?_
  rintro _ w3 ⟨rfl, rfl⟩
  clear c0 c1 c2 c3
  go_wp2
  go_ret
  have h1 : Lies (w2.alloc (.cells #[.int .i64 P.x, .int .i64 P.y, .int .i64 P.a, .int .i64 P.b] 37)) w2.heap.size P := Lies.new rfl
  have h2 : Lies ((w2.alloc (.cells #[.int .i64 P.x, .int .i64 P.y, .int .i64 P.a, .int .i64 P.b] 37)).alloc (.cells #[.int .i64 P.x, .int .i64 P.y, .int .i64 P.a, .int .i64 P.b] 37)) (w2.heap.size + 1) P := Lies.new (by simp)
  have hs := Hb2.out.size
  exact ⟨_, _, rfl, by omega, hs, h2, h1.later (Below.al1 _ _), by simp, by simp; omega, Below.thn Hb2.out (Below.al2 w2 _ _)⟩

def VsT (vs : Array Value) : Prop := ∃ x : Nat × Rc, vs = #[.int .i64 (x.1 : Int), RV x.2]
def asgT (vs : Array Value) (W : World) : World := match vs.getD 1 undef with
  | .agg cs => W.alloc (.cells cs 37)
  | _ => W

/-- A box b1 that holds a row of one's own, apart from T, ahead of a loop that begins at block n. -/
structure OwnJ (e : TypeId) (z : Nat) (w0 : World) (b1 n : Nat) (T : Nat → Prop) (N : Nat) (xs : List Value) (w : World) : Prop where
  vb : ∃ vb, w.cell? ⟨b1, 0, none⟩ = some vb ∧ w.ownsRow (n + 2) e z vb N xs ∧ ∀ k, vb.ownBlock = some k → ¬ T k
  free : w.frozen? ⟨b1, 0, none⟩ = false
  lt : b1 < n
  le : w0.heap.size ≤ n
  bel : Below w0.heap.size w0 w
theorem OwnJ.turn {e : TypeId} {z : Nat} {w0 : World} {b1 n N : Nat} {Tp T S : Nat → Prop} {xs : List Value} {w w' : World} {m : Nat} (h : OwnJ e z w0 b1 n Tp N xs w) (ht : Turns S w w') (hS : ∀ b, S b → Tp b ∨ b = n + 1 ∨ b = n) (hTp : ∀ b, Tp b → n + 1 < b) (hm : w.heap.size ≤ m) (hT : ∀ b, T b → Tp b ∨ m ≤ b) : OwnJ e z w0 b1 n T N xs w' := by
  obtain ⟨⟨vb, h1, h2, h3⟩, h4, h5, h5', h6⟩ := h
  have hSb : ¬ S b1 := fun hb => by
    rcases hS _ hb with h | h | h
    · have := hTp _ h; omega
    · omega
    · omega
  refine ⟨⟨vb, ht.cell h1 hSb, ht.owns h2 (fun k hk hb => ?_), fun k hk hb => ?_⟩, ht.free h1 h4 hSb, h5, h5', ?_⟩
  · have := (h2.lt k hk).1
    rcases hS _ hb with h | h | h
    · exact h3 k hk h
    · omega
    · omega
  · have := (h2.lt k hk).2
    rcases hT _ hb with h | h
    · exact h3 k hk h
    · omega
  · exact h6.trans (ht.below h6.size (fun i hi => by
      rcases hS _ hi with h | h | h
      · have := hTp _ h; omega
      · omega
      · omega))

/-- The grid of a size. -/
def grL (w h : Nat) : List Rc := (List.range (tlN w h)).map (tlR w h)
theorem tlN_le {w h : Nat} (hw : w ≤ 256) (hh : h ≤ 256) : tlN w h ≤ 256 := by
  have h1 : clN h ≤ 16 := by unfold clN; omega
  have h2 : clN w ≤ 16 := by unfold clN; omega
  have := Nat.mul_le_mul h1 h2
  unfold tlN; omega
theorem unL_all (w h : Nat) : unL w h 0 0 w h = (List.range (tlN w h)).map fun i => (i, tlR w h i) := by
  rw [← unR_all]; unfold unR pcR; simp

set_option maxRecDepth 100000 in
set_option maxHeartbeats 4000000 in
theorem grid_any (w h : Int) (W : World) : Calls Tryz.prog 6 #[.int .i64 w, .int .i64 h] W fun e w' => ∃ v', e = .returned v' ∧ w'.ownsRow W.heap.size 37 4 v' (grL (szW w h) (szH w h)).length (flatR (grL (szW w h) (szH w h))) ∧ Below W.heap.size W w' := by
  have hpw := szW_le w h
  have hph := szH_le w h
  have hall := fun W => tlAll_any w h W
  obtain ⟨pw, hpwe⟩ : ∃ p, szW w h = p := ⟨_, rfl⟩
  obtain ⟨ph, hphe⟩ : ∃ p, szH w h = p := ⟨_, rfl⟩
  rw [hpwe] at hpw hall ⊢
  rw [hphe] at hph hall ⊢
  have Hall := Lib.hid hall
  clear hall hpwe hphe
  refine (callsIn_wide (n := 0)).1 ?_
  refine callsIn_of_wp_marks Tryz.func6 rfl trivial ?_ rfl
  simp only [Tryz.ntmps6, List.size_toArray, List.length_cons, List.length_nil, Nat.reduceAdd, Nat.reduceSub, Array.replicate_succ, Array.replicate_zero, List.push_toArray, List.append_toArray, List.nil_append, List.cons_append]
  refine wpIn_wide.2 ?_
  go_wp2_with fail
  refine Calls.mono (Hall.out _) ?_
  rintro _ u1 ⟨Bp, Bt, rfl, hBp, hBt, hlp, hlt, hbp, hbt, hb1⟩
  have hz1 := hb1.block _ (by simp : W.heap.size < (W.alloc (.cells #[.slice none 0 0] 22)).heap.size) |>.trans (World.alloc_heap_new W (.cells #[.slice none 0 0] 22))
  have hc1 : u1.cell? ⟨W.heap.size, 0, none⟩ = some (.slice none 0 0) := cell_heapT hz1 rfl
  have hf1 : u1.frozen? ⟨W.heap.size, 0, none⟩ = false := frozen_heapT hz1
  have hbW : Below W.heap.size W u1 := Below.thn (Below.al1 W _) hb1
  have hsz : W.heap.size + 1 ≤ u1.heap.size := by have := hb1.size; simpa using this
  obtain ⟨n, hn⟩ : ∃ n, u1.heap.size = n := ⟨_, rfl⟩
  rw [hn] at hbp hbt hsz
  have hI0 : OwnJ 37 4 W W.heap.size n (fun _ => False) 0 (flatR []) u1 := ⟨⟨_, hc1, World.ownsRow_nil _ _ _ _, fun _ _ h => h⟩, hf1, by omega, by omega, hbW⟩
  have HIt := Lib.hid (under_iter Bp Bt pw ph 0 0 pw ph u1 (fun b => b = Bp ∨ b = Bt) hlp hlt hpw hph (by omega) (by omega) (fun b hb => by rcases hb with rfl | rfl <;> omega) (.inl rfl) (.inr rfl))
  rw [unL_all] at HIt
  have HB0 : Hid (W.heap.size + 1 ≤ Bp ∧ W.heap.size + 1 ≤ Bt) := Lib.hid (by simpa using And.intro hBp hBt)
  obtain ⟨i0, hi0, hz0, hz1', hz2⟩ := info_parts rc_info
  go_wp2_with fail
  clear hz1 hc1 hf1 hb1 hlp hlt hBp hBt hbW
  have HN := Lib.hid (tlN_le hpw hph)
  have HE := Lib.hid (show (List.range (tlN pw ph)).map (fun i => (i, tlR pw ph i)) = (List.range (tlN pw ph)).map (fun i => (i, tlR pw ph i)) from rfl)
  refine (wpIn_wide (n := 0)).1 ?_
  refine wpIn_rangeFunc_made (gf := 40) (El := ElT) (xs := (List.range (tlN pw ph)).map fun i => (i, tlR pw ph i)) (w0 := u1) ?hg ?eg HIt.out ?hs0 ?hRr VsT asgT ?hps ?hasg
    (fun pre T W' => OwnJ 37 4 W W.heap.size n T pre.length (flatR (pre.map (·.2))) W') (fun _ _ _ _ => False) ?start
    (fun vs W' => { tmps := #[.int .i64 w, .int .i64 h, undef, undef, .slice none 0 0, .pointer (some ⟨W.heap.size, 0, none⟩), undef, .pointer (some ⟨W'.heap.size, 0, none⟩), .int .i64 w, .int .i64 h, .func (.func 40) #[] #[.pointer (some ⟨Bp, 0, none⟩), .pointer (some ⟨Bt, 0, none⟩)], vs.getD 0 undef, vs.getD 1 undef, undef, undef, undef, undef, undef], defers := [] }) ?assign ?body ?done ?stop
  case hg => rfl
  case eg => exact fun _ _ => rfl
  case hs0 => exact Nat.le_refl _
  case hRr => exact fun q hq => ⟨by
    rcases hq with rfl | rfl <;> omega, rfl⟩
  case hps =>
    rintro _ _ _ x _ h
    rw [h]; exact ⟨rfl, x, rfl⟩
  case hasg =>
    rintro _ W' ⟨x, rfl⟩
    exact Below.al1 W' _
  case start => exact hI0
  case assign =>
    rintro l _ W' K ⟨x, rfl⟩ hK
    gi_wp2
    first
      | exact hK
      | simpa using hK
      | simpa [Array.zip, Array.zipWith, asgT] using hK
  case stop => exact fun _ _ _ _ _ _ h => h.elim
  case body =>
    rintro pre ⟨num, r⟩ rest Tp T Wq Wp W1' W2 vs hxs hI htqp hsq hsq1 ht2 hTp hT hT2 hR2 hEl h12 hs12 h1a hLt hL1 hD2 hL2
    simp only [hn] at ht2 hTp hT2 h12 hLt hL1 hD2 hL2 htqp h1a ⊢
    obtain rfl : vs = #[.int .i64 (num : Int), RV r] := hEl
    obtain ⟨r0, hr0⟩ := hL1
    have hnlt : n + 1 < W1'.heap.size := lt_heapT hr0
    have hpa : Lies W2 W1'.heap.size r := lies_at (t := 37) ((h1a.block _ (by show W1'.heap.size < (W1'.alloc _).heap.size; rw [World.size_alloc]; omega) (by omega)).trans (World.alloc_heap_new W1' (.cells #[.int .i64 r.x, .int .i64 r.y, .int .i64 r.a, .int .i64 r.b] 37)))
    obtain ⟨⟨vb, v1, v2, v3⟩, v4, v5, v6, v7⟩ := hI.turn ht2 (fun b hb => hb) (fun b hb => (hTp b hb).1) hsq (T := T) hT
    have hlen : pre.length ≤ 256 := by
      have h1 := congrArg List.length hxs
      rw [List.length_map, List.length_range, List.length_append] at h1
      have := HN.out; omega
    have hs2 : n + 2 ≤ W2.heap.size := by omega
    have hT4 : ∀ b, T b → n + 1 < b := fun b hb => (hT2 b hb).1
    obtain ⟨pb, hpb⟩ : ∃ pb, W1'.heap.size = pb := ⟨_, rfl⟩
    rw [hpb] at hpa ⊢
    obtain ⟨q0, q1, q2, q3⟩ := hpa
    obtain ⟨N, hN⟩ : ∃ N, pre.length = N := ⟨_, rfl⟩
    rw [hN] at v2 hlen
    obtain ⟨vp, vc, rfl⟩ := owns_slice v2
    have HV2 := Lib.hid v2
    have HV3 := Lib.hid v3
    have HV7 := Lib.hid v7
    have HT4 := Lib.hid hT4
    have HR : Hid (∀ b, (b = Bp ∨ b = Bt) → b < n ∧ b ≠ W.heap.size) := Lib.hid (fun b hb => by
      have := HB0.out
      rcases hb with rfl | rfl <;> omega)
    have HTs : Hid (∀ b, T b → b < W2.heap.size) := Lib.hid (fun b hb => (hT2 b hb).2)
    have Hn := Lib.hid hN
    have e0 : (#[.int .i64 (num : Int), RV r] : Array Value).getD 0 undef = .int .i64 (num : Int) := rfl
    have e1 : (#[.int .i64 (num : Int), RV r] : Array Value).getD 1 undef = RV r := rfl
    rw [e0, e1]
    clear hI htqp hsq hsq1 ht2 hTp hT hT2 hR2 h12 hs12 h1a hLt hD2 hL2 hxs hr0 hnlt hpb v2 v3 v7 hT4 e0 e1 hI0 hN hbp hbt
    gi_wp2_with (gi_at_builtin; refine wpListIn_append_mine _ rfl _ _ 22 rfl (n + 2) 37 i0 _ 4 32 Tryz.underlying22 hi0 hz0 hz1' hz2 rfl (by decide) _ _ _ rfl (HV2.out.alloc _) (some ⟨W2.heap.size, 0, none⟩) 1 1 (encR r) rfl rfl ?c1 ?c2 ?c3 ?c4 ?c5 ?_)
    case c1 => intro j u hu; exact hu
    case c2 => intro u hu; simp [encR] at hu; rcases hu with rfl | rfl | rfl | rfl <;> rfl
    case c3 => simp only [maxLen]; omega
    case c4 => omega
    case c5 => first | omega | (simp; omega)
    intro v' w4 ho4 hg4 hp4
    have ht4 : Turns (fun b => (Value.slice vp N vc).ownBlock = some b) W2 w4 := (Turns.of_below' (Below.al1 W2 _)).trans (Turns.of_grown hg4 (fun _ h => h))
    obtain ⟨vp4, vc4, rfl⟩ := owns_slice ho4
    have hb1 : ¬ (Value.slice vp N vc).ownBlock = some W.heap.size := fun e => by have := (HV2.out.lt _ e).1; omega
    have x1 := ht4.cell v1 hb1
    have x4 := ht4.free v1 v4 hb1
    have Ho4 := Lib.hid ho4
    have Ht4 := Lib.hid ht4
    have Hg4 := Lib.hid hp4
    clear ho4 ht4 hg4 hp4 q0 q1 q2 q3 v1 v4
    gi_wp2
    have y1 : (w4.setCell ⟨W.heap.size, 0, none⟩ (.slice vp4 (N + 1) vc4)).cell? ⟨W.heap.size, 0, none⟩ = some (.slice vp4 (N + 1) vc4) := by simp [go_sem, x1]
    have y4 : (w4.setCell ⟨W.heap.size, 0, none⟩ (.slice vp4 (N + 1) vc4)).frozen? ⟨W.heap.size, 0, none⟩ = false := by simp [go_sem, x4]
    have hts := Turns.set1 W.heap.size w4 (.slice vp4 (N + 1) vc4)
    have hkeep : ∀ b, b < n + 2 ∨ T b → ¬ (Value.slice vp N vc).ownBlock = some b := fun b hb e => by
      rcases hb with h | h
      · have := (HV2.out.lt _ e).1; omega
      · exact HV3.out _ e h
    refine ⟨⟨⟨_, y1, ?_, fun b hb hT => ?_⟩, y4, by omega, by omega, ?_⟩, ?_, fun b hb => ?_⟩
    · rw [List.length_append, Hn.out, List.map_append, show flatR (pre.map (·.2) ++ [(num, r)].map (·.2)) = flatR (pre.map (·.2)) ++ encR r by simp [flatR]]
      exact hts.owns Ho4.out (fun b hb h => by have := (Ho4.out.lt _ hb).1; omega)
    · rcases Hg4.out b hb with h | h
      · exact HV3.out b h hT
      · have := HTs.out b hT; first | omega | (simp at h; omega)
    · exact HV7.out.trans ((Ht4.out.below HV7.out.size (fun b hb => by have := (HV2.out.lt _ hb).1; omega)).trans (hts.below (Nat.le_trans HV7.out.size Ht4.out.size) (fun b hb => by omega)))
    · exact Nat.le_trans Ht4.out.size hts.size
    · have hb' : b < W2.heap.size ∧ b ≠ W.heap.size ∧ (b < n + 2 ∨ T b) := by
        rcases hb with hb | hb | hb | hb
        · have := HR.out b hb; exact ⟨by omega, by omega, .inl (by omega)⟩
        · exact ⟨HTs.out b hb, by have := HT4.out b hb; omega, .inr hb⟩
        · exact ⟨by omega, by omega, .inl (by omega)⟩
        · exact ⟨by omega, by omega, .inl (by omega)⟩
      exact (hts.block b (Nat.lt_of_lt_of_le hb'.1 Ht4.out.size) hb'.2.1).trans (Ht4.out.block b hb'.1 (hkeep b hb'.2.2))
  case done =>
    intro Tp Wq W' hI htt hTp hlt hD
    rw [hn] at htt hTp hlt hD
    obtain ⟨⟨vb, v1, v2, v3⟩, v4, v5, v6, v7⟩ := hI.turn (T := fun _ => False) htt (fun b hb => hb) hTp (Nat.le_refl _) (fun _ h => h.elim)
    rw [hn]
    have HD := Lib.hid hD
    have e : ((List.range (tlN pw ph)).map fun i => (i, tlR pw ph i)).map (·.2) = grL pw ph := by unfold grL; rw [List.map_map]; rfl
    have el : ((List.range (tlN pw ph)).map fun i => (i, tlR pw ph i)).length = (grL pw ph).length := by unfold grL; simp
    rw [e, el] at v2
    obtain ⟨vp, vc, rfl⟩ := owns_slice v2
    have HV2 := Lib.hid v2
    have HV7 := Lib.hid v7
    clear hI htt hD hI0 v2 v7 e el
    dsimp only
    go_wp2
    refine ⟨by simp, .inl ⟨_, _, rfl, run_takeDeferred HD.out, ?_⟩⟩
    have htd := Turns.put (T := fun b => b = n) W' n (.deferred none) rfl
    refine ⟨_, results_tmp rfl _ _ _, _, rfl, ?_, ?_⟩
    · exact htd.owns (owns_baseT HV2.out (by omega)) (fun b hb h => by have := (HV2.out.lt _ hb).1; omega)
    · exact HV7.out.trans (htd.below HV7.out.size (fun b hb => by omega))

end Go.Proofs.YtajoipmchgabfaaGreat

/- Slices of rectangles held against each other, place by place: the document's Rects, and the statements' own rects. -/
namespace Go.Proofs.YtajoipmchgabfaaGreat
open Go.RowKit

def eqRs : List Rc → List Rc → Bool
  | [], [] => true
  | r :: l, s :: m => eqR r s && eqRs l m
  | _, _ => false

theorem eqRs_len {l m : List Rc} (h : l.length ≠ m.length) : eqRs l m = false := by
  induction l generalizing m with
  | nil => cases m <;> simp_all [eqRs]
  | cons r l ih =>
    cases m with
    | nil => rfl
    | cons s m => simp only [eqRs]; rw [ih (by simpa using h)]; simp
theorem eqRs_at {l m : List Rc} {k : Nat} (h1 : k < l.length) (h2 : k < m.length) : eqRs (l.drop k) (m.drop k) = (eqR l[k] m[k] && eqRs (l.drop (k + 1)) (m.drop (k + 1))) := by
  rw [List.drop_eq_getElem_cons h1, List.drop_eq_getElem_cons h2]; rfl

theorem eqRs_iff {l m : List Rc} : eqRs l m = true ↔ l = m := by
  induction l generalizing m with
  | nil => cases m <;> simp [eqRs]
  | cons r l ih =>
    cases m with
    | nil => simp [eqRs]
    | cons s m =>
      simp only [eqRs, Bool.and_eq_true, ih, List.cons.injEq]
      constructor
      · rintro ⟨h1, h2⟩; exact ⟨by cases r; cases s; simpa [eqR] using h1, h2⟩
      · rintro ⟨h1, h2⟩; exact ⟨by subst h1; simp [eqR], h2⟩

set_option maxHeartbeats 1000000 in
theorem refRects_any (v u : Value) (xs ys : List Rc) (w : World) (hv : Row encR 4 w v xs) (hu : Row encR 4 w u ys) :
    Makes Tryz.prog 5 #[v, u] w (.bool (eqRs xs ys)) := by
  unfold Makes
  have hn := hv.len
  have hm := hu.len
  obtain ⟨p, cap, rfl, -, -, hp⟩ := hv
  obtain ⟨q, cap2, rfl, -, -, hq⟩ := hu
  have hne := neq_rc
  by_cases hl : xs.length = ys.length
  · have hl1 : ((xs.length : Int) != (ys.length : Int)) = false := by simp [hl]
    have Hl := Lib.hid hl
    clear hl
    go_enter Tryz.func5, Tryz.ntmps5
    go_wp2
    go_loopw [5] (fun i wr => ∃ k : Nat, k ≤ xs.length ∧ i = .int .i64 k ∧ Below w.heap.size w wr ∧ Hid (eqRs xs ys = eqRs (xs.drop k) (ys.drop k))) (fun i _ => xs.length - (intOf i).toNat)
    case atStart => exact ⟨0, by omega, rfl, Below.refl _ _, Lib.hid rfl⟩
    case round =>
      obtain ⟨k, hk, rfl, hb, he⟩ := hrel
      by_cases hlt : k < xs.length
      · have hlt2 : k < ys.length := by rw [← Hl.out]; exact hlt
        obtain ⟨b, off, rfl, hB, hc⟩ := (hp.below hb).rc hlt
        obtain ⟨b2, off2, rfl, hB2, hc2⟩ := (hq.below hb).rc hlt2
        obtain ⟨a0, a1, a2, a3⟩ := hc k hlt
        obtain ⟨d0, d1, d2, d3⟩ := hc2 k hlt2
        have Hat := Lib.hid (eqRs_at hlt hlt2)
        clear hc hc2
        generalize xs[k] = r at *
        generalize ys[k] = s at *
        go_wp2
        go_quiet (fail)
        cases hr : eqR r s
        · have Hr := Lib.hid hr
          clear hr
          go_wp2
          go_ret
          exact ⟨ret_bool (by rw [he.out, Hat.out, Hr.out]; rfl), Below.drewN' hb _⟩
        · have Hr := Lib.hid hr
          clear hr
          go_wp2
          go_roundw
          case rel => exact ⟨k + 1, by omega, by go_num, Below.drewN' hb _, Lib.hid (by rw [he.out, Hat.out, Hr.out]; rfl)⟩
          case measure => simp [intOf]; omega
      · go_wp2
        go_ret
        refine ⟨ret_bool ?_, hb⟩
        rw [he.out, List.drop_eq_nil_of_le (by omega), List.drop_eq_nil_of_le (by rw [← Hl.out]; omega)]; rfl
  · have hl1 : ((xs.length : Int) != (ys.length : Int)) = true := by simp; omega
    have Hl := Lib.hid hl
    clear hl
    go_enter Tryz.func5, Tryz.ntmps5
    go_wp2
    go_ret
    exact ⟨ret_bool (eqRs_len Hl.out).symm, Below.refl _ _⟩

end Go.Proofs.YtajoipmchgabfaaGreat
