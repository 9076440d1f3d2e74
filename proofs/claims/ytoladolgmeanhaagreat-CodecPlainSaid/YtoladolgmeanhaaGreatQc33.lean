/- Several texts in one, each with its own head. -/
import Derived.Test.YtoladolgmeanhaaGreatQc32
import Derived.Test.YtoladolgmeanhaaGreatQc23
import Derived.Test.YtoladolgmeanhaaGreatQc31
/- rle: Encode. -/
namespace Go.Proofs.YtoladolgmeanhaaGreat
open Go.RowKit

attribute [local go_sem] Oper.semAt_some

theorem alike_made (p : Option Addr) (n c : Nat) (w : World) : Calls Tryz.prog 94 #[.slice p n c] w fun e w' => e = .returned (.func (.func 121) #[] #[.pointer (some ⟨w.heap.size, 0, none⟩)]) ∧ w' = w.alloc (.cells #[.slice p n c] 22) := by
  have hmf : ∀ (fn : Fn) (first cap : Array Value) (w : World), (Instr.makeFunc fn first cap).run Tryz.prog w = .ok (.func fn first cap) w := fun _ _ _ _ => rfl
  go_enter Tryz.func94, Tryz.ntmps94
  go_wp2
  go_ret
  exact ⟨rfl, rfl⟩
theorem told_madeR (p : Option Addr) (n c : Nat) (w : World) : Calls Tryz.prog 66 #[.slice p n c] w fun e w' => e = .returned (.func (.func 96) #[] #[.pointer (some ⟨w.heap.size, 0, none⟩)]) ∧ w' = w.alloc (.cells #[.slice p n c] 25) := by
  have hmf : ∀ (fn : Fn) (first cap : Array Value) (w : World), (Instr.makeFunc fn first cap).run Tryz.prog w = .ok (.func fn first cap) w := fun _ _ _ _ => rfl
  go_enter Tryz.func66, Tryz.ntmps66
  go_wp2
  go_ret
  exact ⟨rfl, rfl⟩
def VsRn (vs : Array Value) : Prop := ∃ x : Nat × Nat, vs = #[RnV x.1 x.2]
def asgRn (vs : Array Value) (W : World) : World := match vs.getD 0 undef with
  | .agg cs => W.alloc (.cells cs 108)
  | _ => W
set_option maxRecDepth 100000 in
set_option maxHeartbeats 4000000 in
theorem rencode_any (p : Option Addr) (c : Nat) (l : List Nat) (w : World) (hp : RowAt encP 1 w p l) (h32 : ∀ x ∈ l, x < 4294967296) (hl : l.length ≤ 1048576) (hlc : l.length ≤ c) :
    Calls Tryz.prog 65 #[.slice p l.length c] w fun e w' => ∃ v', e = .returned v' ∧ w'.ownsRow w.heap.size 5 1 v' (rlBs (rlO l)).length ((rlBs (rlO l)).map u8v) ∧ Below w.heap.size w w' := by
  have Hp := Lib.hid hp
  have H32 := Lib.hid h32
  have HpR : Hid (∀ a, p = some a → a.block < w.heap.size) := Lib.hid (fun a ha => by
    rcases hp with ⟨h, -⟩ | ⟨b, off, e, hb, -⟩
    · rw [h] at ha; cases ha
    · rw [e] at ha; cases ha; exact hb)
  obtain ⟨n, hn⟩ : ∃ n, l.length = n := ⟨_, rfl⟩
  have Hn := Lib.hid hn
  rw [hn] at hl hlc ⊢
  clear hp h32 hn
  refine (callsIn_wide (n := 0)).1 ?_
  refine callsIn_of_wp_marks Tryz.func65 rfl trivial ?_ rfl
  simp only [Tryz.ntmps65, List.size_toArray, List.length_cons, List.length_nil, Nat.reduceAdd, Nat.reduceSub, Array.replicate_succ, Array.replicate_zero, List.push_toArray, List.append_toArray, List.nil_append, List.cons_append]
  refine wpIn_wide.2 ?_
  go_wp2_with fail
  refine Calls.mono (alike_made p n c _) ?_
  rintro _ u1 ⟨rfl, rfl⟩
  go_wp2_with fail
  have hal := Below.al2 w (.cells #[.slice none 0 0] 25) (.cells #[.slice p n c] 22)
  have hg := heap_pushed [.cells #[.slice none 0 0] 25, .cells #[.slice p n c] 22] w
  simp only [List.foldl_cons, List.foldl_nil] at hg
  have hsz : ((w.alloc (.cells #[.slice none 0 0] 25)).alloc (.cells #[.slice p n c] 22)).heap.size = w.heap.size + 2 := by simp
  generalize (w.alloc (.cells #[.slice none 0 0] 25)).alloc (.cells #[.slice p n c] 22) = W1 at *
  have hc1 : W1.cell? ⟨w.heap.size, 0, none⟩ = some (.slice none 0 0) := cell_heap ((hg 0 _).2 rfl) rfl
  have hf1 : W1.frozen? ⟨w.heap.size, 0, none⟩ = false := by
    have h := (hg 0 _).2 rfl
    rw [Nat.add_zero] at h
    simp [World.frozen?, h]
  have hc2 : W1.cell? ⟨w.heap.size + 1, 0, none⟩ = some (.slice p n c) := cell_heap ((hg 1 _).2 rfl) rfl
  have hI0 : OwnI 5 w w.heap.size (w.heap.size + 2) (fun _ => False) ((rlBs []).map u8v) W1 := ⟨⟨_, hc1, World.ownsRow_nil _ _ _ _, fun _ _ h => h⟩, hf1, by omega, hal⟩
  have HIt := Lib.hid (alike_iter (w.heap.size + 1) p c l W1 (fun b => b = w.heap.size + 1 ∨ ∃ a, p = some a ∧ b = a.block) (by rw [Hn.out]; exact hc2) (Hp.out.turns (Turns.of_below' (T := fun _ => False) hal) (fun _ _ h => h)) H32.out (by rw [Hn.out]; exact hl) (by rw [Hn.out]; exact hlc) (fun b hb => by
    rcases hb with rfl | ⟨a, ha, rfl⟩
    · omega
    · have := HpR.out a ha; omega) (.inl rfl) (fun a ha => .inr ⟨a, ha, rfl⟩))
  have Hlen : Hid ((rlO l).length ≤ n) := Lib.hid (by rw [← Hn.out]; exact rl_len l)
  clear hg hc1 hc2 hf1
  refine (wpIn_wide (n := 0)).1 ?_
  refine wpIn_rangeFunc_made (gf := 121) (El := ElRn) (xs := rlO l) (w0 := W1) ?hg ?eg HIt.out ?hs0 ?hRr VsRn asgRn ?hps ?hasg
    (fun pre T W' => OwnI 5 w w.heap.size (w.heap.size + 2) T ((rlBs pre).map u8v) W') (fun _ _ _ _ => False) ?start
    (fun vs W' => { tmps := #[.slice p n c, undef, .slice none 0 0, .pointer (some ⟨w.heap.size, 0, none⟩), .pointer (some ⟨W'.heap.size, 0, none⟩), .slice p n c, .func (.func 121) #[] #[.pointer (some ⟨w.heap.size + 1, 0, none⟩)], vs.getD 0 undef, undef, undef, undef, undef], defers := [] }) ?assign ?body ?done ?stop
  case hg => rfl
  case eg => exact fun _ _ => rfl
  case hs0 => exact Nat.le_refl _
  case hRr => exact fun q hq => ⟨by
    rcases hq with rfl | ⟨a, ha, rfl⟩
    · omega
    · have := HpR.out a ha; omega, rfl⟩
  case hps =>
    rintro _ _ _ x _ h
    rw [h]; exact ⟨rfl, x, rfl⟩
  case hasg =>
    rintro _ W' ⟨x, rfl⟩
    exact Below.al1 W' _
  case start => exact hI0
  case assign =>
    rintro l _ W' K ⟨x, rfl⟩ hK
    gi_wp2
    first
      | exact hK
      | simpa using hK
      | simpa [Array.zip, Array.zipWith, asgRn] using hK
  case stop => exact fun _ _ _ _ _ _ h => h.elim
  case body =>
    rintro pre ⟨k, z⟩ rest Tp T Wq Wp W1' W2 vs hxs hI htqp hsq hsq1 ht2 hTp hT hT2 hR2 hEl h12 hs12 h1a hLt hL1 hD2 hL2
    simp only [hsz] at ht2 hTp hT2 h12 hLt hL1 hD2 hL2 htqp h1a ⊢
    obtain rfl : vs = #[RnV k z] := hEl
    obtain ⟨r0, hr0⟩ := hL1
    have hnlt : w.heap.size + 2 + 1 < W1'.heap.size := lt_heap hr0
    have hpa : RnAt W2 W1'.heap.size k z := (h1a.block _ (by show W1'.heap.size < (W1'.alloc _).heap.size; rw [World.size_alloc]; omega) (by omega)).trans (RnAt.new W1' k z)
    have hO := hI.turn ht2 (fun b hb => hb) (fun b hb => (hTp b hb).1) (by omega) hsq (T := T) hT
    obtain ⟨⟨vb, v1, v2, v3⟩, v4, v5, v6⟩ := hO
    rw [List.length_map] at v2
    have hok : RlOk (k, z) := rl_ok l _ (by rw [hxs]; simp)
    have hpl : (rlBs pre).length ≤ 8388608 := by
      have h1 := Hlen.out
      rw [hxs, List.length_append] at h1
      rw [rlBs_len]; omega
    have hs2 : w.heap.size + 2 + 2 ≤ W2.heap.size := by omega
    have hT4 : ∀ b, T b → w.heap.size + 2 + 1 < b := fun b hb => (hT2 b hb).1
    obtain ⟨pb, hpb⟩ : ∃ pb, W1'.heap.size = pb := ⟨_, rfl⟩
    rw [hpb] at hpa ⊢
    obtain ⟨q0, q1⟩ := hpa.c
    obtain ⟨vp, vc, rfl⟩ := owns_slice v2
    have Hcall := Lib.hid (rtell_any k z hok (w.heap.size + 2 + 2) _ (rlBs pre) W2 v2 hpl hs2)
    have HV2 := Lib.hid v2
    have HV3 := Lib.hid v3
    have HV6 := Lib.hid v6
    have HT4 := Lib.hid hT4
    have HR : Hid (∀ b, (b = w.heap.size + 1 ∨ ∃ a, p = some a ∧ b = a.block) → b < w.heap.size + 2 ∧ b ≠ w.heap.size) := Lib.hid (fun b hb => by
      rcases hb with rfl | ⟨a, ha, rfl⟩
      · omega
      · have := HpR.out a ha; omega)
    have HTs : Hid (∀ b, T b → b < W2.heap.size) := Lib.hid (fun b hb => (hT2 b hb).2)
    have e0 : (#[RnV k z] : Array Value).getD 0 undef = RnV k z := rfl
    rw [e0]
    clear hI htqp hsq hsq1 ht2 hTp hT hT2 hR2 h12 hs12 h1a hLt hD2 hL2 hxs hr0 hnlt hpb hpa hok hpl v2 v3 v6 hT4 e0 hI0 hal
    gi_wp2
    refine ⟨trivial, rfl, (CallsIn.inRound _ (callsIn_wide.2 Hcall.out)).mono ?_⟩
    rintro _ w4 ⟨v', rfl, ho4, ht4, hg4⟩
    obtain ⟨vp4, vc4, rfl⟩ := owns_slice ho4
    have hb1 : ¬ (Value.slice vp (rlBs pre).length vc).ownBlock = some w.heap.size := fun e => by have := (HV2.out.lt _ e).1; omega
    have x1 := ht4.cell v1 hb1
    have x4 := ht4.free v1 v4 hb1
    rw [List.length_append] at ho4 hg4
    have Ho4 := Lib.hid ho4
    have Ht4 := Lib.hid ht4
    have Hg4 := Lib.hid hg4
    clear ho4 ht4 hg4 q0 q1 Hcall v1 v4
    gi_wp2
    have y1 : (w4.setCell ⟨w.heap.size, 0, none⟩ (.slice vp4 ((rlBs pre).length + (rlB (k, z)).length) vc4)).cell? ⟨w.heap.size, 0, none⟩ = some (.slice vp4 ((rlBs pre).length + (rlB (k, z)).length) vc4) := by simp [go_sem, x1]
    have y4 : (w4.setCell ⟨w.heap.size, 0, none⟩ (.slice vp4 ((rlBs pre).length + (rlB (k, z)).length) vc4)).frozen? ⟨w.heap.size, 0, none⟩ = false := by simp [go_sem, x4]
    have hts := Turns.set1 w.heap.size w4 (.slice vp4 ((rlBs pre).length + (rlB (k, z)).length) vc4)
    have hkeep : ∀ b, b < w.heap.size + 2 + 2 ∨ T b → b < W2.heap.size → ¬ (Value.slice vp (rlBs pre).length vc).ownBlock = some b := fun b hb _ e => by
      rcases hb with h | h
      · have := (HV2.out.lt _ e).1; omega
      · exact HV3.out _ e h
    refine ⟨⟨⟨_, y1, ?_, fun b hb hT => ?_⟩, y4, by omega, ?_⟩, ?_, fun b hb => ?_⟩
    · have e : rlBs (pre ++ [(k, z)]) = rlBs pre ++ rlB (k, z) := by simp [rlBs]
      rw [e, List.length_map]
      refine hts.owns ?_ (fun b hb h => by have := (Ho4.out.lt _ hb).1; omega)
      rw [List.length_append]
      exact Ho4.out
    · rcases Hg4.out b hb with h | h
      · exact HV3.out b h hT
      · have := HTs.out b hT; omega
    · exact HV6.out.trans ((Ht4.out.below HV6.out.size (fun b hb => by have := (HV2.out.lt _ hb).1; omega)).trans (hts.below (Nat.le_trans HV6.out.size Ht4.out.size) (fun b hb => by omega)))
    · exact Nat.le_trans Ht4.out.size hts.size
    · have hb' : b < W2.heap.size ∧ b ≠ w.heap.size ∧ (b < w.heap.size + 2 + 2 ∨ T b) := by
        rcases hb with hb | hb | hb | hb
        · have := HR.out b hb; exact ⟨by omega, this.2, .inl (by omega)⟩
        · exact ⟨HTs.out b hb, by have := HT4.out b hb; omega, .inr hb⟩
        · exact ⟨by omega, by omega, .inl (by omega)⟩
        · exact ⟨by omega, by omega, .inl (by omega)⟩
      have h1 := Ht4.out.block b hb'.1 (hkeep b hb'.2.2 hb'.1)
      exact (hts.block b (Nat.lt_of_lt_of_le hb'.1 Ht4.out.size) hb'.2.1).trans h1
  case done =>
    intro Tp Wq W' hI htt hTp hlt hD
    rw [hsz] at htt hTp hlt hD
    have hO := hI.turn (T := fun _ => False) htt (fun b hb => hb) hTp (by omega) (Nat.le_refl _) (fun _ h => h.elim)
    rw [hsz]
    have HD := Lib.hid hD
    obtain ⟨⟨vb, v1, v2, v3⟩, v4, v5, v6⟩ := hO
    rw [List.length_map] at v2
    obtain ⟨vp, vc, rfl⟩ := owns_slice v2
    have HV2 := Lib.hid v2
    have HV6 := Lib.hid v6
    clear hI htt hD hI0 v2 v6
    dsimp only
    go_wp2
    refine ⟨by simp, .inl ⟨_, _, rfl, run_takeDeferred HD.out, ?_⟩⟩
    have htd := Turns.put (T := fun b => b = w.heap.size + 2) W' (w.heap.size + 2) (.deferred none) rfl
    refine ⟨_, results_tmp rfl _ _ _, _, rfl, ?_, ?_⟩
    · exact htd.owns (owns_base HV2.out (by omega)) (fun b hb h => by have := (HV2.out.lt _ hb).1; omega)
    · exact HV6.out.trans (htd.below HV6.out.size (fun b hb => by omega))
end Go.Proofs.YtoladolgmeanhaaGreat

/- rle: the document's Same and Cut. -/
namespace Go.Proofs.YtoladolgmeanhaaGreat
open Go.RowKit

attribute [local go_sem] Oper.semAt_some

theorem RowAt.pxs {W : World} {p : Option Addr} {xs : List Nat} (h : RowAt encP 1 W p xs) (h0 : 0 < xs.length) : ∃ b off, p = some ⟨b, off, none⟩ ∧ ∀ i, i < xs.length → W.cell? ⟨b, off + i, none⟩ = some (.int .u32 (xs.getD i 0 : Int)) := by
  obtain ⟨b, off, e, -⟩ := h.px h0
  refine ⟨b, off, e, fun i hi => ?_⟩
  obtain ⟨b', off', e', h'⟩ := h.px hi
  rw [e] at e'; cases e'
  exact h'
theorem ext_getD {a b : List Nat} (h : a.length = b.length) (hx : ∀ i, i < a.length → a.getD i 0 = b.getD i 0) : a = b := by
  refine List.ext_getElem h (fun i h1 h2 => ?_)
  have := hx i h1
  rwa [List.getD_eq_getElem?_getD, List.getD_eq_getElem?_getD, List.getElem?_eq_getElem h1, List.getElem?_eq_getElem h2] at this
set_option maxRecDepth 20000 in
set_option maxHeartbeats 4000000 in
theorem rsame_any (p q : Option Addr) (c d : Nat) (a b : List Nat) (w : World) (hp : RowAt encP 1 w p a) (hq : RowAt encP 1 w q b) (ha : a.length ≤ 1048576) (hb : b.length ≤ 1048576) :
    Makes Tryz.prog 28 #[.slice p a.length c, .slice q b.length d] w (.bool (decide (a = b))) := by
  unfold Makes
  have Hp := Lib.hid hp
  have Hq := Lib.hid hq
  obtain ⟨n, hn⟩ : ∃ n, a.length = n := ⟨_, rfl⟩
  obtain ⟨m, hm⟩ : ∃ n, b.length = n := ⟨_, rfl⟩
  have Hn := Lib.hid hn
  have Hm := Lib.hid hm
  rw [hn] at ha ⊢
  rw [hm] at hb ⊢
  clear hp hq hn hm
  obtain ⟨r, hr⟩ : ∃ r, decide (a = b) = r := ⟨_, rfl⟩
  have Hr := Lib.hid hr
  rw [hr]
  clear hr
  go_enter Tryz.func28, Tryz.ntmps28
  by_cases hnm : n = m
  · subst hnm
    have d0 : ((n : Int) != (n : Int)) = false := by simp
    go_wp2_with fail
    go_loopw [5] (fun iv wr => ∃ i : Nat, iv = .int .i64 (i : Int) ∧ i ≤ n ∧ Hid (∀ j, j < i → a.getD j 0 = b.getD j 0) ∧ Hid (Below w.heap.size w wr)) (fun iv _ => n - (intOf iv).toNat)
    case atStart => exact ⟨0, rfl, Nat.zero_le _, Lib.hid (fun j hj => by omega), Lib.hid (Below.refl _ _)⟩
    case round =>
      obtain ⟨i, rfl, hi, HE, HB⟩ := hrel
      by_cases hin : i < n
      · have d1 : decide ((i : Int) < (n : Int)) = true := by simp; omega
        obtain ⟨g, off, rfl, hc⟩ := Hp.out.pxs (by rw [Hn.out]; omega)
        obtain ⟨g2, off2, rfl, hc2⟩ := Hq.out.pxs (by rw [Hm.out]; omega)
        have x0 := cell_later HB.out (hc i (by rw [Hn.out]; omega))
        have x1 := cell_later HB.out (hc2 i (by rw [Hm.out]; omega))
        obtain ⟨x, hx⟩ : ∃ x, a.getD i 0 = x := ⟨_, rfl⟩
        obtain ⟨y, hy⟩ : ∃ x, b.getD i 0 = x := ⟨_, rfl⟩
        rw [hx] at x0
        rw [hy] at x1
        have Hx := Lib.hid hx
        have Hy := Lib.hid hy
        have i0 : (0 : Int) ≤ (i : Int) := by omega
        have i1 : (i : Int) < (n : Int) := by omega
        clear hc hc2 hx hy
        by_cases hxy : x = y
        · have d2 : ((x : Int) != (y : Int)) = false := by simp; omega
          go_upto_region 6 with (fail)
          go_quiet (fail)
          rename_i nq
          have HB2 := Lib.hid (Below.drewN' HB.out nq)
          generalize wr.drewN nq = W2 at *
          clear x0 x1
          go_wp2
          go_roundw
          case rel => exact ⟨i + 1, by go_num, by omega, Lib.hid (fun j hj => by
            by_cases h : j < i
            · exact HE.out j h
            · rw [show j = i by omega, Hx.out, Hy.out, hxy]), HB2⟩
          case measure => simp [intOf]; omega
        · have d2 : ((x : Int) != (y : Int)) = true := by simp; omega
          obtain rfl : r = false := by
            rw [← Hr.out, decide_eq_false_iff_not]
            rintro rfl
            exact hxy (Hx.out.symm.trans Hy.out)
          go_upto_region 6 with (fail)
          go_quiet (fail)
          rename_i nq
          have HB2 := Lib.hid (Below.drewN' HB.out nq)
          generalize wr.drewN nq = W2 at *
          clear x0 x1
          go_wp2
          go_ret
          exact ⟨rfl, HB2.out⟩
      · obtain rfl : i = n := by omega
        have d1 : decide ((i : Int) < (i : Int)) = false := by simp
        obtain rfl : r = true := by
          rw [← Hr.out, decide_eq_true_eq]
          exact ext_getD (by rw [Hn.out, Hm.out]) (fun j hj => HE.out j (by rw [Hn.out] at hj; exact hj))
        go_wp2
        go_ret
        exact ⟨rfl, HB.out⟩
  · have d0 : ((n : Int) != (m : Int)) = true := by simp; omega
    obtain rfl : r = false := by
      rw [← Hr.out, decide_eq_false_iff_not]
      rintro rfl
      exact hnm (Hn.out.symm.trans Hm.out)
    go_wp2
    go_ret
    exact ⟨rfl, Below.refl _ _⟩
set_option maxRecDepth 20000 in
set_option maxHeartbeats 4000000 in
theorem rcut_any (p : Option Addr) (c : Nat) (l : List Nat) (w : World) (hp : RowAt encP 1 w p l) (hl : l.length ≤ 1048576) :
    Calls Tryz.prog 25 #[.slice p l.length c] w fun e w' => ∃ v', e = .returned v' ∧ w'.ownsRow w.heap.size 41 1 v' (l.map rlw).length ((l.map rlw).map pxv) ∧ Below w.heap.size w w' := by
  have Hp := Lib.hid hp
  obtain ⟨n, hn⟩ : ∃ n, l.length = n := ⟨_, rfl⟩
  have Hn := Lib.hid hn
  rw [hn] at hl ⊢
  clear hp hn
  go_enter Tryz.func25, Tryz.ntmps25
  go_wp2_with fail
  go_loopw [3, 4] (fun ov iv wr => ∃ i : Nat, iv = .int .i64 (i : Int) ∧ i ≤ n ∧ Hid (wr.ownsRow w.heap.size 41 1 ov i (((l.take i).map rlw).map pxv)) ∧ Hid (Below w.heap.size w wr)) (fun _ iv _ => n - (intOf iv).toNat)
  case atStart => exact ⟨0, rfl, Nat.zero_le _, Lib.hid (World.ownsRow_nil _ _ _ _), Lib.hid (Below.refl _ _)⟩
  case round =>
    obtain ⟨i, rfl, hi, HO, HB⟩ := hrel
    obtain ⟨vp, vc, rfl⟩ := owns_slice HO.out
    by_cases hin : i < n
    · have d1 : decide ((i : Int) < (n : Int)) = true := by simp; omega
      obtain ⟨g, off, rfl, hc⟩ := Hp.out.pxs (by rw [Hn.out]; omega)
      have x0 := cell_later HB.out (hc i (by rw [Hn.out]; omega))
      have Hs : Hid ((l.take (i + 1)).map rlw = (l.take i).map rlw ++ [rlw (l.getD i 0)]) := Lib.hid (by
        rw [List.take_succ_eq_append_getElem (by rw [Hn.out]; exact hin), List.map_append, List.getD_eq_getElem?_getD, List.getElem?_eq_getElem (by rw [Hn.out]; exact hin)]; rfl)
      obtain ⟨x, hx⟩ : ∃ x, l.getD i 0 = x := ⟨_, rfl⟩
      rw [hx] at x0 Hs
      obtain ⟨y, hy⟩ : ∃ y, rlw x = y := ⟨_, rfl⟩
      have hy2 : (x : Int) % 16777216 = (y : Int) := by rw [← hy]; simp [rlw]
      have hyb : y < 16777216 := by rw [← hy]; exact rlw_lt x
      rw [hy] at Hs
      have i0 : (0 : Int) ≤ (i : Int) := by omega
      have i1 : (i : Int) < (n : Int) := by omega
      have hs1 := HB.out.size
      clear hc hx hy
      go_wp2_with (at_builtin; refine wpList_append_one wr rfl (.tmp 11) (.tmp 17) 22 rfl w.heap.size 41 _ 4 pxv_info Tryz.underlying22 rfl (.slice vp i vc) i (((l.take i).map rlw).map pxv) rfl HO.out (.int .u32 (y : Int)) _ rfl rfl ?m3 ?m4 hs1 ?_)
      case m3 => simp only [maxLen]; omega
      case m4 => omega
      intro g1 cap1 w5 ho1 ht1 hg1
      have Ho1 : Hid (w5.ownsRow w.heap.size 41 1 (.slice (some ⟨g1, 0, none⟩) (i + 1) cap1) (i + 1) (((l.take (i + 1)).map rlw).map pxv)) := Lib.hid (by
        rw [Hs.out, List.map_append]
        simpa [pxv] using ho1)
      have Ht1 := Lib.hid (HB.out.trans (ht1.below hs1 (fun b hb => (HO.out.lt b hb).1)))
      clear ho1 ht1 hg1
      go_wp2
      go_roundw
      case rel => exact ⟨i + 1, by go_num, by omega, Ho1, Ht1⟩
      case measure => simp [intOf]; omega
    · obtain rfl : i = n := by omega
      have d1 : decide ((i : Int) < (i : Int)) = false := by simp
      go_wp2
      go_ret
      refine ⟨_, rfl, ?_, HB.out⟩
      have := HO.out
      rw [List.take_of_length_le (by rw [Hn.out]; exact Nat.le_refl _)] at this
      rw [List.length_map, Hn.out]
      exact this
end Go.Proofs.YtoladolgmeanhaaGreat
