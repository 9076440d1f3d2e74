/- Several texts in one, each with its own head. -/
import Derived.Test.YtajoipmchgabfaaGreatT35
import Derived.Test.YtajoipmchgabfaaGreatT25
import Derived.Test.YtajoipmchgabfaaGreatT36
/- tiles: Split. -/
namespace Go.Proofs.YtajoipmchgabfaaGreat
open Go.RowKit Go.Maps

attribute [local go_sem] Oper.semAt_some

/-- A list cut along the tiles. -/
def spE (E : List (Nat × Rc)) (xs : List (Nat × Rc)) : List Rc := xs.flatMap fun e => fmN E e.1
def spL (pw ph : Nat) (l : List Rc) : List Rc := (List.range (tlN pw ph)).flatMap (fmN (pcsL pw ph (ptL pw ph l)))

set_option maxRecDepth 100000 in
set_option maxHeartbeats 4000000 in
theorem split_any (v : Value) (l : List Rc) (w h : Int) (W : World) (hv : Row encR 4 W v l) (hf : ∀ r ∈ l, Fit r) (hl : l.length ≤ 1048576) :
    Calls Tryz.prog 11 #[v, .int .i64 w, .int .i64 h] W fun e w' => ∃ v', e = .returned v' ∧ w'.ownsRow W.heap.size 37 4 v' (spL (szW w h) (szH w h) l).length (flatR (spL (szW w h) (szH w h) l)) ∧ Below W.heap.size W w' := by
  have hpw := szW_le w h
  have hph := szH_le w h
  have hall := fun W => tlAll_any w h W
  have hpc := fun v W hv => pieces_any v l w h W hv hf hl
  obtain ⟨pw, hpwe⟩ : ∃ p, szW w h = p := ⟨_, rfl⟩
  obtain ⟨ph, hphe⟩ : ∃ p, szH w h = p := ⟨_, rfl⟩
  rw [hpwe] at hpw hall hpc ⊢
  rw [hphe] at hph hall hpc ⊢
  unfold spL
  have HE0 := Lib.hid (show (pcsL pw ph (ptL pw ph l)).length ≤ 16777216 by
    have h1 := pcsL_len hpw hph (ps := ptL pw ph l) (ptL_in pw ph l)
    have h2 := ptL_len hpw hph l
    omega)
  have Htot := Lib.hid (fm_total hpw hph (ptL_in pw ph l))
  have Hone := Lib.hid (fmN_len hpw hph (ptL_in pw ph l))
  have Hmem := Lib.hid (fun i r (hr : r ∈ ofN (pcsL pw ph (ptL pw ph l)) i) => (pcs_mem hpw hph (ptL_in pw ph l) hr).2)
  obtain ⟨E, hE⟩ : ∃ E, pcsL pw ph (ptL pw ph l) = E := ⟨_, rfl⟩
  rw [hE] at hpc HE0 Hmem Htot Hone ⊢
  have Hall := Lib.hid hall
  have Hpc := Lib.hid hpc
  have Hv := Lib.hid hv
  have Hpw := Lib.hid hpw
  have Hph := Lib.hid hph
  obtain ⟨nf, hj0, hj1, hj2, hj3⟩ := info_parts rc_info
  clear hall hpc hpwe hphe hE hv hf hl
  refine (callsIn_wide (n := 0)).1 ?_
  refine callsIn_of_wp_marks Tryz.func11 rfl trivial ?_ rfl
  simp only [Tryz.ntmps11, List.size_toArray, List.length_cons, List.length_nil, Nat.reduceAdd, Nat.reduceSub, Array.replicate_succ, Array.replicate_zero, List.push_toArray, List.append_toArray, List.nil_append, List.cons_append]
  refine wpIn_wide.2 ?_
  go_upto_region 2 with (fail)
  have hz1 := World.alloc_heap_new W (.cells #[.slice none 0 0] 22)
  have hb1 := Below.al1 W (.cells #[.slice none 0 0] 22)
  have hs1 : (W.alloc (.cells #[.slice none 0 0] 22)).heap.size = W.heap.size + 1 := by simp
  generalize W.alloc (.cells #[.slice none 0 0] 22) = w1 at *
  have Hz1 := Lib.hid hz1
  have Hb1 := Lib.hid hb1
  have Hs1 := Lib.hid hs1
  clear hz1 hb1 hs1
  go_wp2_with fail
  refine Calls.mono (Hpc.out v w1 (Hv.out.below Hb1.out)) ?_
  rintro _ w2 ⟨M, bq, N0, F, rfl, hP⟩
  have HP := Lib.hid hP
  clear hP Hpc
  go_upto_region 3 with (fail)
  have hP := HP.out
  have h13 : W.heap.size < M := by have := hP.wm; have := Hs1.out; omega
  have hs2 : w1.heap.size ≤ w2.heap.size ∧ M < w2.heap.size ∧ N0 ≤ w2.heap.size := ⟨hP.bel.size, hP.map.lt, hP.nw⟩
  have hz3 := World.alloc_heap_new w2 (.cells #[.map (some M)] 47)
  have hb3 := Below.al1 w2 (.cells #[.map (some M)] 47)
  have hs3 : (w2.alloc (.cells #[.map (some M)] 47)).heap.size = w2.heap.size + 1 := by simp
  generalize w2.alloc (.cells #[.map (some M)] 47) = w3 at *
  obtain ⟨b8, hb8⟩ : ∃ b, w2.heap.size = b := ⟨_, rfl⟩
  rw [hb8] at hz3 hs3 hs2 ⊢
  have HP3 := Lib.hid (hP.turn (S := fun _ => False) (T := fun _ => False) (Turns.of_below' hb3) (fun _ h => h.elim) (Nat.le_refl _) (fun _ h => h.elim))
  have Hz3 := Lib.hid hz3
  have HbW := Lib.hid (Below.thn Hb1.out (Below.thn hP.bel hb3))
  have Hz13 := Lib.hid (((Below.thn hP.bel hb3).block _ (by have := Hs1.out; omega)).trans Hz1.out)
  have Hs3 := Lib.hid (And.intro hs3 (And.intro hs2 (And.intro h13 Hs1.out)))
  clear hP h13 hs2 hz3 hb3 hs3 hb8 HP
  go_wp2_with fail
  refine Calls.mono (Hall.out _) ?_
  rintro _ u ⟨Bp, Bt, rfl, hBp, hBt, hlp, hlt, hbp, hbt, hb4⟩
  obtain ⟨n, hn⟩ : ∃ n, u.heap.size = n := ⟨_, rfl⟩
  have hs4 := hb4.size
  rw [hn] at hbp hbt hs4
  have HQ := Lib.hid (HP3.out.turn (S := fun _ => False) (T := fun _ => False) (Turns.of_below' hb4) (fun _ h => h.elim) (Nat.le_refl _) (fun _ h => h.elim))
  have hz4 := (hb4.block _ (lt_heapT Hz13.out)).trans Hz13.out
  have hz5 := (hb4.block _ (lt_heapT Hz3.out)).trans Hz3.out
  have hc4 : u.cell? ⟨W.heap.size, 0, none⟩ = some (.slice none 0 0) := cell_heapT hz4 rfl
  have hf4 : u.frozen? ⟨W.heap.size, 0, none⟩ = false := frozen_heapT hz4
  have Hc8 := Lib.hid (show u.cell? ⟨b8, 0, none⟩ = some (.map (some M)) from cell_heapT hz5 rfl)
  have hbW : Below W.heap.size W u := Below.thn HbW.out hb4
  have HS := Lib.hid (show b8 < n ∧ W.heap.size < b8 ∧ M < b8 ∧ N0 ≤ b8 ∧ W.heap.size < M ∧ w3.heap.size ≤ n from by have := Hs3.out; omega)
  have hs := HS.out
  have hI0 : OwnJ 37 4 W W.heap.size n (fun _ => False) 0 (flatR []) u := ⟨⟨_, hc4, World.ownsRow_nil _ _ _ _, fun _ _ h => h⟩, hf4, by omega, by omega, hbW⟩
  have HIt := Lib.hid (under_iter Bp Bt pw ph 0 0 pw ph u (fun b => b = Bp ∨ b = Bt) hlp hlt hpw hph (by omega) (by omega) (fun b hb => by rcases hb with rfl | rfl <;> omega) (.inl rfl) (.inr rfl))
  rw [unL_all] at HIt
  have HB0 : Hid (w3.heap.size ≤ Bp ∧ w3.heap.size ≤ Bt ∧ Bp < n ∧ Bt < n ∧ w3.heap.size = b8 + 1) := Lib.hid (by have := Hs3.out; omega)
  go_wp2_with fail
  clear hz4 hz5 hc4 hf4 hb4 hlp hlt hBp hBt hbW hs
  have HN := Lib.hid (tlN_le hpw hph)
  refine (wpIn_wide (n := 0)).1 ?_
  refine wpIn_rangeFunc_made (gf := 40) (El := ElT) (xs := (List.range (tlN pw ph)).map fun i => (i, tlR pw ph i)) (w0 := u) ?hg ?eg HIt.out ?hs0 ?hRr VsT (fun _ W => W) ?hps ?hasg
    (fun pre T W' => OwnJ 37 4 W W.heap.size n T (spE E pre).length (flatR (spE E pre)) W' ∧ Turns (fun b => b = W.heap.size ∨ n ≤ b) u W') (fun _ _ _ _ => False) ?start
    (fun vs W' => { tmps := #[v, .int .i64 w, .int .i64 h, undef, undef, undef, .slice none 0 0, .pointer (some ⟨W.heap.size, 0, none⟩), .pointer (some ⟨b8, 0, none⟩), vs.getD 0 undef, v, .int .i64 w, .int .i64 h, .map (some M), .int .i64 w, .int .i64 h, .func (.func 40) #[] #[.pointer (some ⟨Bp, 0, none⟩), .pointer (some ⟨Bt, 0, none⟩)], vs.getD 0 undef, vs.getD 1 undef, undef, undef, undef, undef, undef, undef, undef], defers := [] }) ?assign ?body ?done ?stop
  case hg => rfl
  case eg => exact fun _ _ => rfl
  case hs0 => exact Nat.le_refl _
  case hRr => exact fun q hq => ⟨by
    rcases hq with rfl | rfl <;> omega, rfl⟩
  case hps =>
    rintro _ _ _ x _ h
    rw [h]; exact ⟨rfl, x, rfl⟩
  case hasg => exact fun _ W' _ => Below.refl _ _
  case start => exact ⟨hI0, Turns.refl _ _⟩
  case assign =>
    rintro l _ W' K ⟨x, rfl⟩ hK
    gi_wp2
    first
      | exact hK
      | simpa using hK
      | simpa [Array.zip, Array.zipWith] using hK
  case stop => exact fun _ _ _ _ _ _ h => h.elim
  case body =>
    rintro pre ⟨num, r⟩ rest Tp T Wq Wp W1' W2 vs hxs hI htqp hsq hsq1 ht2 hTp hT hT2 hR2 hEl h12 hs12 h1a hLt hL1 hD2 hL2
    simp only [hn] at ht2 hTp hT2 h12 hLt hL1 hD2 hL2 htqp h1a ⊢
    obtain rfl : vs = #[.int .i64 (num : Int), RV r] := hEl
    have hmem : (num, r) ∈ (List.range (tlN pw ph)).map fun i => (i, tlR pw ph i) := by rw [hxs]; simp
    have hnumb : (0 : Int) ≤ (num : Int) ∧ (num : Int) ≤ 1048576 := by
      obtain ⟨j, hj, e⟩ := List.mem_map.1 hmem
      have h1 := List.mem_range.1 hj
      have h2 := HN.out
      cases e; omega
    have hlen : (spE E pre).length ≤ 65536 := by
      have h1 := congrArg List.length hxs
      rw [List.length_map, List.length_range, List.length_append] at h1
      have h2 := Htot.out pre
      have h3 := HN.out
      unfold spE
      omega
    obtain ⟨⟨vb, v1, v2, v3⟩, v4, v5, v6, v7⟩ := hI.1.turn ht2 (fun b hb => hb) (fun b hb => (hTp b hb).1) hsq (T := T) hT
    have hTu := hI.2.trans (ht2.mono (T' := fun b => b = W.heap.size ∨ n ≤ b) (fun b _ hb => .inr (by
      rcases hb with h | h | h
      · have := (hTp b h).1; omega
      · omega
      · omega)))
    have hs2 : n + 2 ≤ W2.heap.size := by omega
    have HT4 := Lib.hid (fun b hb => (hT2 b hb : n + 1 < b ∧ b < W2.heap.size))
    obtain ⟨N, hN⟩ : ∃ N, (spE E pre).length = N := ⟨_, rfl⟩
    rw [hN] at v2 hlen
    obtain ⟨vp, vc, rfl⟩ := owns_slice v2
    have HV2 := Lib.hid v2
    have HV3 := Lib.hid v3
    have HV7 := Lib.hid v7
    have Hn := Lib.hid hN
    have HTu := Lib.hid hTu
    have HR : Hid (∀ b, (b = Bp ∨ b = Bt) → b < n ∧ b ≠ W.heap.size) := Lib.hid (fun b hb => by
      have := HB0.out
      have := HS.out
      rcases hb with rfl | rfl <;> omega)
    have hrow : W2.ownsRow N0 37 4 (ownF F num) (ofN E num).length (flatR (ofN E num)) := hTu.owns (HQ.out.row num) (fun k hk hb => by
      have h1 := (HP3.out.row num).lt k hk
      have h2 := HS.out
      have h3 := HB0.out
      have h4 := HP3.out.lm
      rcases hb with h | h <;> omega)
    have hmap : MapV W2 M E.length (intF F) := HQ.out.map.turned hTu (fun h => by have := HS.out; rcases h with h | h <;> omega)
    have hrlt : ∀ k, (ownF F num).ownBlock = some k → k < n + 2 := fun k hk => by have h1 := (HP3.out.row num).lt k hk; have := HS.out; omega
    have e0 : (#[.int .i64 (num : Int), RV r] : Array Value).getD 0 undef = .int .i64 (num : Int) := rfl
    have e1 : (#[.int .i64 (num : Int), RV r] : Array Value).getD 1 undef = RV r := rfl
    rw [e0, e1]
    have hc8 : W2.cell? ⟨b8, 0, none⟩ = some (.map (some M)) := hTu.cell Hc8.out (fun h => by have h2 := HS.out; simp only at h; omega)
    clear hI htqp hsq hsq1 ht2 hTp hT hT2 hR2 h12 hs12 h1a hLt hD2 hL2 hxs v2 v3 v7 e0 e1 hI0 hN hmem hTu hL1
    gi_wp2
    obtain ⟨C, hC⟩ : ∃ C : World → Prop, C = fun w => Turns (fun b => (Value.slice vp N vc).ownBlock = some b) W2 w := ⟨_, rfl⟩
    have hCi : ∀ w, C w → Turns (fun b => (Value.slice vp N vc).ownBlock = some b) W2 w := by
      rw [hC]
      exact fun _ h => h
    have hCst : StaysC C := by
      rw [hC]
      exact fun w w' h hb => h.trans (Turns.of_below' hb)
    have hown : ∀ k, (Value.slice vp N vc).ownBlock = some k → n + 2 ≤ k := fun k hk => (HV2.out.lt k hk).1
    have q7 : ∀ m : InC C, m.world.cell? ⟨W.heap.size, 0, none⟩ = some (.slice vp N vc) := fun m => (hCi _ m.ok).cell v1 (fun h => by have h1 : n + 2 ≤ W.heap.size := hown _ h; have := HS.out; omega)
    have q8 : ∀ m : InC C, m.world.cell? ⟨b8, 0, none⟩ = some (.map (some M)) := fun m => (hCi _ m.ok).cell hc8 (fun h => by have h1 : n + 2 ≤ b8 := hown _ h; have := HS.out; omega)
    have qL : ∀ m : InC C, (Instr.lookup 47 (.map (some M)) (.int .i64 (num : Int)) false).run Tryz.prog m.world = .ok (ownF F num) m.world := fun m => by
      have h1 := (hmap.turned (hCi _ m.ok) (fun h => by have h1 : n + 2 ≤ M := hown _ h; have := HS.out; omega)).look hnumb
      rw [intF_nat] at h1
      exact h1
    have hC2 : C W2 := by rw [hC]; exact Turns.refl _ _
    have hK0 : StaysC (fun w => Below W2.heap.size W2 w) := fun w w' h hb => h.trans (hb.mono h.size)
    have hqq : Nonempty (InC C) := ⟨⟨W2, hC2⟩⟩
    have HC := Lib.hid hC
    have HCi := Lib.hid hCi
    have Hown := Lib.hid hown
    have Hrow := Lib.hid hrow
    have Hrlt := Lib.hid hrlt
    have Hv1 := Lib.hid v1
    have Hv4 := Lib.hid v4
    clear hC hCi hown hrow hrlt hmap hc8 v1 v4
    refine wpIn_region_chainT 4 6 C (fun w => Below W2.heap.size W2 w) (by kernel_rfl) (by decide) (by kernel_rfl) (by kernel_rfl) (by kernel_rfl) (by kernel_rfl) (fun h => by obtain ⟨_, _, h⟩ := h; exact h) hCst hC2 hK0 (Below.refl _ _) ?_
    repeat (refine LqC_on (fun K hK => ?_); go_simp; (refine hK _ ?_; clear hK K))
    refine LqC_nil ?_
    simp only [List.take_succ_cons, List.take_zero, List.drop_succ_cons, List.drop_zero]
    refine ChC_call rfl 22 #[ownF F num] (fun w' => by first | rfl | (go_simp; done)) (fun v w => Below W2.heap.size W2 w ∧ RwG encR 4 w v (fmN E num)) ?hst ?hcall (fun sv => ?_)
    case hst => exact fun v w w' h hb => ⟨hK0 _ _ h.1 hb, h.2.below hb⟩
    case hcall =>
      intro w' hw hk
      have hr := owns_row' (enc := encR) (k := 4) (fun _ => rfl) ((Turns.of_below' (T := fun _ => False) hk).owns Hrow.out (fun _ _ h => h))
      refine Calls.mono (regOf_any (ownF F num) (ofN E num) w' hr (fun r hr => ?_) ?_ (form_len _ rfl _ _)) ?_
      · obtain ⟨_, p, -, e⟩ := Hmem.out num r hr
        rw [e]; exact and_fit _ _
      · have h1 := HE0.out
        have h2 : (ofN E num).length ≤ E.length := by unfold ofN; rw [List.length_map]; exact List.length_filter_le _ _
        omega
      · rintro _ w'' ⟨v', rfl, ho, hb⟩
        exact ⟨v', rfl, hCst _ _ hw hb, hK0 _ _ hk hb, RwG.owned (enc := encR) (k := 4) (fun _ => rfl) ho⟩
    refine ChC_append rfl (.tmp 19) (.tmp 23) 22 rfl (n + 2) 37 nf _ 4 32 Tryz.underlying22 hj0 hj1 hj2 hj3 rfl (by decide) (.slice vp N vc) N (flatR (spE E pre)) rfl sv (fmN E num).length (flatR (fmN E num)) rfl (flatR_len _) (encR_one _) ?c3 ?c4 ?hin W2.heap.size ?hZ ?hCa (fun v' => ?_)
    case c3 => have := Hone.out num; simp only [maxLen]; omega
    case c4 => have := Hone.out num; omega
    case hin =>
      rintro w' - ⟨hk, hr⟩
      obtain ⟨p, c, rfl, -, -, hsrc⟩ := RwG.src (enc := encR) (k := 4) (fun _ => rfl) (by decide) hr
      exact ⟨(Turns.of_below' (T := fun _ => False) hk).owns HV2.out (fun _ _ h => h), Nat.le_trans hs2 hk.size, p, c, rfl, hsrc⟩
    case hZ => exact fun w' hw => (HCi.out w' hw).size
    case hCa =>
      intro w' w'' hw _ hg
      rw [HC.out] at hw ⊢
      exact hw.trans (Turns.of_grown hg (fun _ h => h))
    intro w4 hw4 hk4
    obtain ⟨ho4, hp4⟩ := hk4
    have ht4 := HCi.out w4 hw4
    obtain ⟨vp4, vc4, rfl⟩ := owns_slice ho4
    have hb1 : ¬ (Value.slice vp N vc).ownBlock = some W.heap.size := fun e => by have := Hown.out _ e; have := HS.out; omega
    have x1 := ht4.cell Hv1.out hb1
    have x4 := ht4.free Hv1.out Hv4.out hb1
    have Ho4 := Lib.hid ho4
    have Ht4 := Lib.hid ht4
    have Hg4 := Lib.hid hp4
    clear ho4 ht4 hp4 hw4 hCst hC2 hK0 hqq q7 q8 qL
    go_simp
    go_wp2
    gi_wp2
    have y1 : (w4.setCell ⟨W.heap.size, 0, none⟩ (.slice vp4 (N + (fmN E num).length) vc4)).cell? ⟨W.heap.size, 0, none⟩ = some (.slice vp4 (N + (fmN E num).length) vc4) := by simp [go_sem, x1]
    have y4 : (w4.setCell ⟨W.heap.size, 0, none⟩ (.slice vp4 (N + (fmN E num).length) vc4)).frozen? ⟨W.heap.size, 0, none⟩ = false := by simp [go_sem, x4]
    have hts := Turns.set1 W.heap.size w4 (.slice vp4 (N + (fmN E num).length) vc4)
    have hSS := HS.out
    have hkeep : ∀ b, b < n + 2 ∨ T b → ¬ (Value.slice vp N vc).ownBlock = some b := fun b hb e => by
      rcases hb with h | h
      · have := Hown.out _ e; omega
      · exact HV3.out _ e h
    refine ⟨⟨⟨⟨_, y1, ?_, fun b hb hT => ?_⟩, y4, by omega, by omega, ?_⟩, ?_⟩, ?_, fun b hb => ?_⟩
    · rw [show spE E (pre ++ [(num, r)]) = spE E pre ++ fmN E num by unfold spE; rw [List.flatMap_append, List.flatMap_singleton], List.length_append, Hn.out, show flatR (spE E pre ++ fmN E num) = flatR (spE E pre) ++ flatR (fmN E num) by simp [flatR]]
      exact hts.owns Ho4.out (fun b hb h => by have := (Ho4.out.lt _ hb).1; omega)
    · rcases Hg4.out b hb with h | h
      · exact HV3.out b h hT
      · have := (HT4.out b hT).2; omega
    · exact HV7.out.trans ((Ht4.out.below HV7.out.size (fun b hb => by have := Hown.out _ hb; omega)).trans (hts.below (Nat.le_trans HV7.out.size Ht4.out.size) (fun b hb => by omega)))
    · exact HTu.out.trans ((Ht4.out.mono (fun b _ hb => .inr (by have := Hown.out _ hb; omega))).trans (hts.mono (fun b _ hb => .inl hb)))
    · exact Nat.le_trans Ht4.out.size hts.size
    · have hb' : b < W2.heap.size ∧ b ≠ W.heap.size ∧ (b < n + 2 ∨ T b) := by
        rcases hb with hb | hb | hb | hb
        · have := HR.out b hb; exact ⟨by omega, by omega, .inl (by omega)⟩
        · exact ⟨(HT4.out b hb).2, by have := HT4.out b hb; omega, .inr hb⟩
        · exact ⟨by omega, by omega, .inl (by omega)⟩
        · exact ⟨by omega, by omega, .inl (by omega)⟩
      exact (hts.block b (Nat.lt_of_lt_of_le hb'.1 Ht4.out.size) hb'.2.1).trans (Ht4.out.block b hb'.1 (hkeep b hb'.2.2))
  case done =>
    intro Tp Wq W' hI htt hTp hlt hD
    rw [hn] at htt hTp hlt hD
    obtain ⟨⟨vb, v1, v2, v3⟩, v4, v5, v6, v7⟩ := hI.1.turn (T := fun _ => False) htt (fun b hb => hb) hTp (Nat.le_refl _) (fun _ h => h.elim)
    rw [hn]
    have HD := Lib.hid hD
    have e : spE E ((List.range (tlN pw ph)).map fun i => (i, tlR pw ph i)) = (List.range (tlN pw ph)).flatMap (fmN E) := by unfold spE; rw [List.flatMap_map]
    obtain ⟨L, hL⟩ : ∃ L, (List.range (tlN pw ph)).flatMap (fmN E) = L := ⟨_, rfl⟩
    rw [e, hL] at v2
    have HL := Lib.hid hL
    clear hL
    obtain ⟨vp, vc, rfl⟩ := owns_slice v2
    have HV2 := Lib.hid v2
    have HV7 := Lib.hid v7
    have hSS := HS.out
    clear hI htt hD hI0 v2 v7 e
    dsimp only
    go_wp2
    refine ⟨by simp, .inl ⟨_, _, rfl, run_takeDeferred HD.out, ?_⟩⟩
    have htd := Turns.put (T := fun b => b = n) W' n (.deferred none) rfl
    refine ⟨_, results_tmp rfl _ _ _, _, rfl, ?_, ?_⟩
    · rw [HL.out]
      exact htd.owns (owns_baseT HV2.out (by omega)) (fun b hb h => by have := (HV2.out.lt _ hb).1; omega)
    · exact HV7.out.trans (htd.below HV7.out.size (fun b hb => by omega))

end Go.Proofs.YtajoipmchgabfaaGreat

/- tiles, plainly: what is cut is cut already; lists together touch what one of them touches. Nothing here speaks of a program. -/
namespace Go.Proofs.YtajoipmchgabfaaGreat

theorem pix_fmN (E : List (Nat × Rc)) (i : Nat) (x y : Int) : pix (fmN E i) x y = pix (ofN E i) x y := by unfold fmN; rw [pix_form _ rfl]
theorem spL_pix {w h : Nat} (hw : w ≤ 256) (hh : h ≤ 256) (l : List Rc) (x y : Int) : pix (spL w h l) x y = (pix l x y && hasR (pcR w h) x y) := by
  rw [Bool.eq_iff_iff, Bool.and_eq_true]
  constructor
  · intro hx
    obtain ⟨r, hr, hxr⟩ := pix_iff.1 hx
    unfold spL at hr
    obtain ⟨i, hi, hri⟩ := List.mem_flatMap.1 hr
    have h1 : pix (fmN (pcsL w h (ptL w h l)) i) x y = true := pix_iff.2 ⟨r, hri, hxr⟩
    rw [pix_fmN, pcs_pix hw hh (ptL_in w h l) (List.mem_range.1 hi), ptL_pix, Bool.and_eq_true, Bool.and_eq_true] at h1
    exact h1.1
  · rintro ⟨h1, h2⟩
    obtain ⟨i0, h0, hc⟩ := tile_one hw hh x y
    obtain ⟨he, b1, b2⟩ := has_iff.1 h2
    simp only [pcR] at b1 b2
    rcases hc with ⟨-, -, -, -, hi, -⟩ | ⟨hn, -⟩
    · have h3 : pix (fmN (pcsL w h (ptL w h l)) i0) x y = true := by
        rw [pix_fmN, pcs_pix hw hh (ptL_in w h l) hi, ptL_pix, h1, h2, h0 i0 hi]
        simp
      obtain ⟨r, hr, hxr⟩ := pix_iff.1 h3
      exact pix_iff.2 ⟨r, List.mem_flatMap.2 ⟨i0, List.mem_range.2 hi, hr⟩, hxr⟩
    · exact absurd ⟨by omega, by omega, by omega, by omega⟩ hn
theorem flatMap_congr' {α β : Type} {f g : α → List β} : ∀ {l : List α}, (∀ a ∈ l, f a = g a) → l.flatMap f = l.flatMap g
  | [], _ => rfl
  | a :: l, h => by
    rw [List.flatMap_cons, List.flatMap_cons, h a (by simp), flatMap_congr' (fun b hb => h b (by simp [hb]))]
theorem spL_again {w h : Nat} (hw : w ≤ 256) (hh : h ≤ 256) (l : List Rc) : spL w h (spL w h l) = spL w h l := by
  refine flatMap_congr' fun i hi => ?_
  have hi' := List.mem_range.1 hi
  unfold fmN
  refine form_unique rfl rfl fun x y => ?_
  show pix _ x y = pix _ x y
  rw [pcs_pix hw hh (ptL_in w h _) hi', pcs_pix hw hh (ptL_in w h _) hi', ptL_pix, ptL_pix, spL_pix hw hh]
  cases pix l x y <;> cases hasR (pcR w h) x y <;> rfl
theorem spL_fit (w h : Nat) (l : List Rc) : ∀ r ∈ spL w h l, Fit r := fun r hr => by
  obtain ⟨i, -, hri⟩ := List.mem_flatMap.1 hr
  exact form_fit _ rfl _ _ r hri
theorem spL_len {w h : Nat} (hw : w ≤ 256) (hh : h ≤ 256) (l : List Rc) : (spL w h l).length ≤ 65536 := by
  have h1 := fm_total hw hh (ptL_in w h l) ((List.range (tlN w h)).map fun i => (i, zeroRc))
  have h2 := tlN_le hw hh
  rw [List.flatMap_map, List.length_map, List.length_range] at h1
  have h3 : tlN w h * 256 ≤ 256 * 256 := Nat.mul_le_mul_right _ h2
  exact Nat.le_trans h1 (by omega)

/-- Whether a tile is touched. -/
def tchB (w h : Nat) (l : List Rc) (i : Nat) : Bool := !(ofN (pcsL w h (ptL w h l)) i).isEmpty
theorem tcL_eq (w h : Nat) (l : List Rc) : tcL w h l = (List.range (tlN w h)).filter (tchB w h l) := rfl
theorem tch_iff {w h : Nat} (hw : w ≤ 256) (hh : h ≤ 256) (l : List Rc) {i : Nat} (hi : i < tlN w h) : tchB w h l i = true ↔ ∃ x y, pix l x y = true ∧ hasR (tlR w h i) x y = true := by
  rw [← touch_iff hw hh l hi]
  unfold tchB
  cases ofN (pcsL w h (ptL w h l)) i <;> simp
theorem pix_app (a b : List Rc) (x y : Int) : pix (a ++ b) x y = (pix a x y || pix b x y) := by
  unfold pix; rw [List.any_append]
theorem tch_app {w h : Nat} (hw : w ≤ 256) (hh : h ≤ 256) (a b : List Rc) {i : Nat} (hi : i < tlN w h) : tchB w h (a ++ b) i = (tchB w h a i || tchB w h b i) := by
  rw [Bool.eq_iff_iff, Bool.or_eq_true, tch_iff hw hh _ hi, tch_iff hw hh _ hi, tch_iff hw hh _ hi]
  constructor
  · rintro ⟨x, y, h1, h2⟩
    rw [pix_app, Bool.or_eq_true] at h1
    rcases h1 with h1 | h1
    · exact .inl ⟨x, y, h1, h2⟩
    · exact .inr ⟨x, y, h1, h2⟩
  · rintro (⟨x, y, h1, h2⟩ | ⟨x, y, h1, h2⟩)
    · exact ⟨x, y, by rw [pix_app, h1]; rfl, h2⟩
    · exact ⟨x, y, by rw [pix_app, h1, Bool.or_true], h2⟩
theorem tc_left {w h : Nat} (hw : w ≤ 256) (hh : h ≤ 256) (a b : List Rc) : tcL w h a = (tcL w h (a ++ b)).filter (tchB w h a) := by
  rw [tcL_eq, tcL_eq, List.filter_filter]
  refine List.filter_congr fun i hi => ?_
  rw [tch_app hw hh a b (List.mem_range.1 hi)]
  cases tchB w h a i <;> simp
theorem tc_right {w h : Nat} (hw : w ≤ 256) (hh : h ≤ 256) (a b : List Rc) : tcL w h b = (tcL w h (a ++ b)).filter (tchB w h b) := by
  rw [tcL_eq, tcL_eq, List.filter_filter]
  refine List.filter_congr fun i hi => ?_
  rw [tch_app hw hh a b (List.mem_range.1 hi)]
  cases tchB w h a i <;> cases tchB w h b i <;> simp
theorem tc_one {w h : Nat} (hw : w ≤ 256) (hh : h ≤ 256) (a b : List Rc) {i : Nat} (hi : i ∈ tcL w h (a ++ b)) : (tchB w h a i || tchB w h b i) = true := by
  rw [tcL_eq, List.mem_filter] at hi
  rw [← tch_app hw hh a b (List.mem_range.1 hi.1)]
  exact hi.2
theorem tc_len {w h : Nat} (hw : w ≤ 256) (hh : h ≤ 256) (l : List Rc) : (tcL w h l).length ≤ 256 := by
  have h1 := List.length_filter_le (tchB w h l) (List.range (tlN w h))
  rw [List.length_range] at h1
  exact Nat.le_trans h1 (tlN_le hw hh)

/-- How far a walk along t has come in those of t that are A. -/
def cntA (A : Nat → Bool) (t : List Nat) (j : Nat) : Nat := ((t.take j).filter A).length
theorem cntA_le (A : Nat → Bool) (t : List Nat) (j : Nat) : cntA A t j ≤ (t.filter A).length := by
  have h : t.filter A = (t.take j).filter A ++ (t.drop j).filter A := by rw [← List.filter_append, List.take_append_drop]
  unfold cntA
  rw [h, List.length_append]; omega
theorem cntA_all (A : Nat → Bool) (t : List Nat) : cntA A t t.length = (t.filter A).length := by unfold cntA; rw [List.take_length]
theorem cntA_step {A : Nat → Bool} {t : List Nat} {j : Nat} (hj : j < t.length) :
    (A t[j] = true → (t.filter A)[cntA A t j]? = some t[j] ∧ cntA A t (j + 1) = cntA A t j + 1) ∧ (A t[j] = false → (t.filter A)[cntA A t j]? ≠ some t[j] ∧ cntA A t (j + 1) = cntA A t j) := by
  have h : t.filter A = (t.take j).filter A ++ (t.drop j).filter A := by rw [← List.filter_append, List.take_append_drop]
  have h2 : (t.filter A)[cntA A t j]? = ((t.drop j).filter A)[0]? := by
    unfold cntA
    rw [h, List.getElem?_append_right (Nat.le_refl _), Nat.sub_self]
  have h3 : t.drop j = t[j] :: t.drop (j + 1) := List.drop_eq_getElem_cons hj
  have h4 : cntA A t (j + 1) = cntA A t j + ([t[j]].filter A).length := by
    unfold cntA
    rw [List.take_succ_eq_append_getElem hj, List.filter_append, List.length_append]
  rw [h2, h3, h4]
  constructor
  · intro ha
    rw [List.filter_cons, if_pos ha, List.filter_cons, if_pos ha]
    exact ⟨rfl, rfl⟩
  · intro ha
    rw [List.filter_cons, if_neg (by rw [ha]; decide), List.filter_cons, if_neg (by rw [ha]; decide)]
    refine ⟨fun e => ?_, rfl⟩
    have hm := List.mem_of_getElem? e
    rw [List.mem_filter, ha] at hm
    exact absurd hm.2 (by decide)

end Go.Proofs.YtajoipmchgabfaaGreat
