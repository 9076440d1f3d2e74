/- tiles: Sums. -/
import Derived.Test.YtajoipmchgabfaaGreatT38
import Derived.Test.YtajoipmchgabfaaGreatT37
namespace Go.Proofs.YtajoipmchgabfaaGreat
open Go.RowKit

attribute [local go_sem] Oper.semAt_some

/-- A tile's sum; all of a picture. -/
def tlS (pw ph : Nat) (L : List Int) (i : Nat) : Int := smF pw (tlR pw ph i).x.toNat (tlR pw ph i).y.toNat (tlR pw ph i).a.toNat L (tlR pw ph i).b.toNat
def smL (w h : Int) (L : List Int) : List Int := if okS w h ∧ (L.length : Int) = w * h then (List.range (tlN w.toNat h.toNat)).map (tlS w.toNat h.toNat L) else []
def u32V (z : Int) : Value := .int .u32 z
theorem tlS_any {pw ph c n i : Nat} {p : Option Addr} {L : List Int} (w : World) (hL : RowAt encW 1 w p L) (hn : L.length = n) (hlc : n ≤ c) (hc : c ≤ 9223372036854775807) (hlen : n = pw * ph) (hw : pw ≤ 256) (hh : ph ≤ 256) (hi : i < tlN pw ph) :
    Makes Tryz.prog 24 #[.agg #[.int .i64 (pw : Int), .int .i64 (ph : Int), .slice p n c], RV (tlR pw ph i)] w (.int .u32 (tlS pw ph L i)) := by
  obtain ⟨⟨h1, h2, h3, h4, h5, h6⟩, he⟩ := tl_in hw hh hi
  unfold tlS
  obtain ⟨r, hr⟩ : ∃ r, tlR pw ph i = r := ⟨_, rfl⟩
  rw [hr] at h1 h2 h3 h4 h5 h6 ⊢
  have e : RV r = RV ⟨(r.x.toNat : Int), (r.y.toNat : Int), (r.a.toNat : Int), (r.b.toNat : Int)⟩ := by
    rw [Int.toNat_of_nonneg h1, Int.toNat_of_nonneg h2, Int.toNat_of_nonneg (by omega : 0 ≤ r.a), Int.toNat_of_nonneg (by omega : 0 ≤ r.b)]
  rw [e]
  exact sumOf_any pw ph r.x.toNat r.y.toNat r.a.toNat r.b.toNat c n p L w hL hn hlc hc hlen hw hh (by omega) (by omega) (by omega) (by omega)

set_option maxRecDepth 100000 in
set_option maxHeartbeats 4000000 in
theorem sums_any (wd ht : Int) (p : Option Addr) (c n : Nat) (L : List Int) (W : World) (hL : RowAt encW 1 W p L) (hn : L.length = n) (hlc : n ≤ c) (hc : c ≤ 9223372036854775807) :
    Calls Tryz.prog 14 #[.agg #[.int .i64 wd, .int .i64 ht, .slice p n c]] W fun e w' => ∃ v', e = .returned v' ∧ w'.ownsRow W.heap.size 38 1 v' (smL wd ht L).length ((smL wd ht L).map u32V) ∧ Below W.heap.size W w' := by
  have hmul : okS wd ht → IntKind.i64.wrap (wd * ht) = wd * ht := fun h => by
    obtain ⟨a1, a2, a3, a4⟩ := h
    obtain ⟨x, rfl⟩ := Int.eq_ofNat_of_zero_le (show 0 ≤ wd by omega)
    obtain ⟨y, rfl⟩ := Int.eq_ofNat_of_zero_le (show 0 ≤ ht by omega)
    have : x * y ≤ 256 * 256 := Nat.mul_le_mul (by omega) (by omega)
    exact IntWalk.i64_in _ (by rw [← Int.natCast_mul]; omega)
  obtain ⟨z, hz⟩ : ∃ z, IntKind.i64.wrap (wd * ht) = z := ⟨_, rfl⟩
  have Hmul := Lib.hid (fun h => hz.symm.trans (hmul h))
  have Hz := Lib.hid hz
  clear hz hmul
  obtain ⟨S, hS⟩ : ∃ S, smL wd ht L = S := ⟨_, rfl⟩
  rw [hS]
  have HS := Lib.hid hS
  clear hS
  have HL := Lib.hid hL
  have Hn := Lib.hid hn
  clear hL hn
  refine (callsIn_wide (n := 0)).1 ?_
  refine callsIn_of_wp_marks Tryz.func14 rfl trivial ?_ rfl
  simp only [Tryz.ntmps14, List.size_toArray, List.length_cons, List.length_nil, Nat.reduceAdd, Nat.reduceSub, Array.replicate_succ, Array.replicate_zero, List.push_toArray, List.append_toArray, List.nil_append, List.cons_append]
  refine wpIn_wide.2 ?_
  go_upto_region 1 with (fail)
  have hi1 := World.alloc_heap_new W (.cells #[.int .i64 wd, .int .i64 ht, .slice p n c] 25)
  have hb1 := Below.al1 W (.cells #[.int .i64 wd, .int .i64 ht, .slice p n c] 25)
  have hs1 : (W.alloc (.cells #[.int .i64 wd, .int .i64 ht, .slice p n c] 25)).heap.size = W.heap.size + 1 := by simp
  generalize W.alloc (.cells #[.int .i64 wd, .int .i64 ht, .slice p n c] 25) = w1 at *
  have m0 : w1.cell? ⟨W.heap.size, 0, none⟩ = some (.int .i64 wd) := cell_heapT hi1 rfl
  have m1 : w1.cell? ⟨W.heap.size, 1, none⟩ = some (.int .i64 ht) := cell_heapT hi1 rfl
  have m2 : w1.cell? ⟨W.heap.size, 2, none⟩ = some (.slice p n c) := cell_heapT hi1 rfl
  have hz := Hz.out
  have Hb1 := Lib.hid hb1
  have Hi1 := Lib.hid hi1
  have Hs1 := Lib.hid hs1
  clear hb1 hi1 hs1
  by_cases hnz : (n : Int) = z
  · have d1 : ((n : Int) != z) = false := by simp [hnz]
    have d2 : decide ((n : Int) = z) = true := by simp [hnz]
    have Hnz := Lib.hid hnz
    have hpw := szW_le wd ht
    have hph := szH_le wd ht
    have hall := fun W => tlAll_any wd ht W
    have hsz := sz_both wd ht
    obtain ⟨pw, hpwe⟩ : ∃ p, szW wd ht = p := ⟨_, rfl⟩
    obtain ⟨ph, hphe⟩ : ∃ p, szH wd ht = p := ⟨_, rfl⟩
    rw [hpwe] at hpw hall hsz
    rw [hphe] at hph hall hsz
    have Hall := Lib.hid hall
    have Hsz := Lib.hid hsz
    have HT0 : Hid (S = (List.range (tlN pw ph)).map (tlS pw ph L)) := Lib.hid (by
      rw [← HS.out]
      unfold smL
      rcases hsz with ⟨e1, e2, e3⟩ | ⟨e1, e2, e3, e4, e5⟩
      · rw [if_neg (fun h => e3 h.1), e1, e2]; rfl
      · rw [if_pos ⟨e3, by rw [Hn.out, ← Hmul.out e3]; exact hnz⟩, e4, e5]; rfl)
    have Hpx : Hid (∀ u i, Below W.heap.size W u → i < tlN pw ph → Makes Tryz.prog 24 #[.agg #[.int .i64 wd, .int .i64 ht, .slice p n c], RV (tlR pw ph i)] u (.int .u32 (tlS pw ph L i))) := Lib.hid (fun u i hb hi => by
      rcases hsz with ⟨e1, e2, e3⟩ | ⟨e1, e2, e3, e4, e5⟩
      · rw [e1] at hi
        have : tlN 0 ph = 0 := by unfold tlN clN; simp
        omega
      · have hq := Hmul.out e3
        rw [e4, e5] at hq ⊢
        exact tlS_any u (HL.out.below hb) Hn.out hlc hc (by have h1 : (n : Int) = (pw : Int) * ph := hnz.trans hq; rw [← Int.natCast_mul] at h1; exact_mod_cast h1) hpw hph hi)
    clear hnz hsz hall hpwe hphe
    go_upto_region 4 with (fail)
    have hz3 := World.alloc_heap_new w1 (.cells #[.slice none 0 0] 23)
    have hb3 := Below.al1 w1 (.cells #[.slice none 0 0] 23)
    have hs3 : (w1.alloc (.cells #[.slice none 0 0] 23)).heap.size = w1.heap.size + 1 := by simp
    generalize w1.alloc (.cells #[.slice none 0 0] 23) = w3 at *
    obtain ⟨b3, hb3e⟩ : ∃ b, w1.heap.size = b := ⟨_, rfl⟩
    rw [hb3e] at hz3 hs3 ⊢
    have t0 := cell_later hb3 m0
    have t1 := cell_later hb3 m1
    obtain ⟨bi, hbi⟩ : ∃ b, W.heap.size = b := ⟨_, rfl⟩
    have Hz3 := Lib.hid hz3
    have HbW := Lib.hid (Below.thn Hb1.out hb3)
    have Hi3 := Lib.hid ((hb3.block _ (lt_heapT Hi1.out)).trans Hi1.out)
    have HE := Lib.hid (show b3 = bi + 1 ∧ w3.heap.size = b3 + 1 ∧ W.heap.size = bi from by have := Hs1.out; omega)
    rw [hbi] at t0 t1 Hi3 ⊢
    clear hb3 hz3 hs3 hb3e hbi m0 m1 m2
    go_wp2_with fail
    refine Calls.mono (Hall.out _) ?_
    rintro _ u ⟨Bp, Bt, rfl, hBp, hBt, hlp, hlt, hbp, hbt, hb4⟩
    obtain ⟨nn, hnn⟩ : ∃ k, u.heap.size = k := ⟨_, rfl⟩
    have hs4 := hb4.size
    rw [hnn] at hbp hbt hs4
    have hz5 := (hb4.block _ (lt_heapT Hz3.out)).trans Hz3.out
    have hc4 : u.cell? ⟨b3, 0, none⟩ = some (.slice none 0 0) := cell_heapT hz5 rfl
    have hf4 : u.frozen? ⟨b3, 0, none⟩ = false := frozen_heapT hz5
    have Hi4 := Lib.hid ((hb4.block _ (lt_heapT Hi3.out)).trans Hi3.out)
    have hbW : Below W.heap.size W u := Below.thn HbW.out hb4
    have HQ := Lib.hid (show b3 < nn ∧ b3 = bi + 1 ∧ W.heap.size = bi ∧ w3.heap.size = b3 + 1 ∧ b3 < Bp ∧ b3 < Bt ∧ Bp < nn ∧ Bt < nn from by have := HE.out; omega)
    have hq := HQ.out
    have hI0 : OwnJ 38 1 W b3 nn (fun _ => False) 0 (([] : List Int).map u32V) u := ⟨⟨_, hc4, World.ownsRow_nil _ _ _ _, fun _ _ h => h⟩, hf4, by omega, by omega, hbW⟩
    have HIt := Lib.hid (under_iter Bp Bt pw ph 0 0 pw ph u (fun b => b = Bp ∨ b = Bt) hlp hlt hpw hph (by omega) (by omega) (fun b hb => by rcases hb with rfl | rfl <;> omega) (.inl rfl) (.inr rfl))
    rw [unL_all] at HIt
    obtain ⟨nf, hj0, hj1, hj2, hj3⟩ := info_parts w32_info
    clear hz5 hc4 hf4 hb4 hlp hlt hBp hBt hbW hq t0 t1
    go_wp2_with fail
    have HN := Lib.hid (tlN_le hpw hph)
    refine (wpIn_wide (n := 0)).1 ?_
    refine wpIn_rangeFunc_made (gf := 40) (El := ElT) (xs := (List.range (tlN pw ph)).map fun i => (i, tlR pw ph i)) (w0 := u) ?hg ?eg HIt.out ?hs0 ?hRr VsT asgT ?hps ?hasg
      (fun pre T W' => OwnJ 38 1 W b3 nn T pre.length ((pre.map fun e => tlS pw ph L e.1).map u32V) W' ∧ Turns (fun b => b = b3 ∨ nn ≤ b) u W') (fun _ _ _ _ => False) ?start
      (fun vs W' => { tmps := #[.agg #[.int .i64 wd, .int .i64 ht, .slice p n c], .pointer (some ⟨bi, 0, none⟩), .slice none 0 0, .pointer (some ⟨b3, 0, none⟩), undef, .pointer (some ⟨W'.heap.size, 0, none⟩), .pointer (some ⟨bi, 2, none⟩), .slice p n c, .int .i64 (n : Int), .pointer (some ⟨bi, 0, none⟩), .int .i64 wd, .pointer (some ⟨bi, 1, none⟩), .int .i64 ht, .int .i64 z, .bool false, .pointer (some ⟨bi, 0, none⟩), .int .i64 wd, .pointer (some ⟨bi, 1, none⟩), .int .i64 ht, .func (.func 40) #[] #[.pointer (some ⟨Bp, 0, none⟩), .pointer (some ⟨Bt, 0, none⟩)], vs.getD 0 undef, vs.getD 1 undef, undef, undef, undef, undef, undef, undef, undef], defers := [] }) ?assign ?body ?done ?stop
    case hg => rfl
    case eg => exact fun _ _ => rfl
    case hs0 => exact Nat.le_refl _
    case hRr => exact fun q hq => ⟨by
      rcases hq with rfl | rfl <;> omega, rfl⟩
    case hps =>
      rintro _ _ _ x _ h
      rw [h]; exact ⟨rfl, x, rfl⟩
    case hasg =>
      rintro _ W' ⟨x, rfl⟩
      exact Below.al1 W' _
    case start => exact ⟨hI0, Turns.refl _ _⟩
    case assign =>
      rintro l _ W' K ⟨x, rfl⟩ hK
      gi_wp2
      first
        | exact hK
        | simpa using hK
        | simpa [Array.zip, Array.zipWith, asgT] using hK
    case stop => exact fun _ _ _ _ _ _ h => h.elim
    case body =>
      rintro pre ⟨num, r⟩ rest Tp T Wq Wp W1' W2 vs hxs hI htqp hsq hsq1 ht2 hTp hT hT2 hR2 hEl h12 hs12 h1a hLt hL1 hD2 hL2
      simp only [hnn] at ht2 hTp hT2 h12 hLt hL1 hD2 hL2 htqp h1a ⊢
      obtain rfl : vs = #[.int .i64 (num : Int), RV r] := hEl
      obtain ⟨r0, hr0⟩ := hL1
      have hnlt : nn + 1 < W1'.heap.size := lt_heapT hr0
      have hpa : Lies W2 W1'.heap.size r := lies_at (t := 37) ((h1a.block _ (by show W1'.heap.size < (W1'.alloc _).heap.size; rw [World.size_alloc]; omega) (by omega)).trans (World.alloc_heap_new W1' (.cells #[.int .i64 r.x, .int .i64 r.y, .int .i64 r.a, .int .i64 r.b] 37)))
      have hmem : (num, r) ∈ (List.range (tlN pw ph)).map fun i => (i, tlR pw ph i) := by rw [hxs]; simp
      obtain ⟨hnum, hrt⟩ : num < tlN pw ph ∧ r = tlR pw ph num := by
        obtain ⟨j, hj, e⟩ := List.mem_map.1 hmem
        have h1 := List.mem_range.1 hj
        cases e; exact ⟨h1, rfl⟩
      have hlen : pre.length ≤ 256 := by
        have h1 := congrArg List.length hxs
        rw [List.length_map, List.length_range, List.length_append] at h1
        have := HN.out; omega
      obtain ⟨⟨vb, v1, v2, v3⟩, v4, v5, v6, v7⟩ := hI.1.turn ht2 (fun b hb => hb) (fun b hb => (hTp b hb).1) hsq (T := T) hT
      have hTu := hI.2.trans (ht2.mono (T' := fun b => b = b3 ∨ nn ≤ b) (fun b _ hb => .inr (by
        rcases hb with h | h | h
        · have := (hTp b h).1; omega
        · omega
        · omega)))
      have hpl : W1'.heap.size < W2.heap.size := by have h9 : (W1'.alloc (.cells #[.int .i64 r.x, .int .i64 r.y, .int .i64 r.a, .int .i64 r.b] 37)).heap.size ≤ W2.heap.size := h1a.size; rw [World.size_alloc] at h9; omega
      have hvp : ∀ k, vb.ownBlock = some k → k ≠ W1'.heap.size := fun k hk => by
        obtain ⟨⟨vb', v1', v2', -⟩, -⟩ := hI.1
        have e : vb' = vb := by
          have h1 := ht2.cell v1' (fun h => by
            have h2 := HQ.out
            rcases h with h | h | h
            · have h3 : nn + 1 < b3 := (hTp _ h).1; omega
            · simp only at h; omega
            · simp only at h; omega)
          rw [v1] at h1
          cases h1; rfl
        have := (v2'.lt k (by rw [e]; exact hk)).2
        omega
      have hs2 : nn + 2 ≤ W2.heap.size := by omega
      have HT4 := Lib.hid (fun b hb => (hT2 b hb : nn + 1 < b ∧ b < W2.heap.size))
      obtain ⟨N, hN⟩ : ∃ N, pre.length = N := ⟨_, rfl⟩
      rw [hN] at v2 hlen
      obtain ⟨vp, vc, rfl⟩ := owns_slice v2
      have HV2 := Lib.hid v2
      have HV3 := Lib.hid v3
      have HV7 := Lib.hid v7
      have HNl := Lib.hid hN
      have HTu := Lib.hid hTu
      have Hvp := Lib.hid hvp
      have HRb : Hid (∀ b, (b = Bp ∨ b = Bt) → b < nn ∧ b ≠ b3) := Lib.hid (fun b hb => by
        have := HQ.out
        rcases hb with rfl | rfl <;> omega)
      obtain ⟨pb, hpb⟩ : ∃ pb, W1'.heap.size = pb := ⟨_, rfl⟩
      rw [hpb] at hpa hpl Hvp
      have e0 : (#[.int .i64 (num : Int), RV r] : Array Value).getD 0 undef = .int .i64 (num : Int) := rfl
      have e1 : (#[.int .i64 (num : Int), RV r] : Array Value).getD 1 undef = RV r := rfl
      rw [e0, e1]
      have hi2 := (hTu.block bi (lt_heapT Hi4.out) (fun h => by have := HQ.out; omega)).trans Hi4.out
      have hsum := fun u' (hb : Below W.heap.size W u') => Hpx.out u' num hb hnum
      rw [← hrt] at hsum
      have Hsum := Lib.hid hsum
      clear hI htqp hsq hsq1 ht2 hTp hT hT2 hR2 h12 hs12 h1a hLt hD2 hL2 hxs v2 v3 v7 e0 e1 hI0 hN hmem hTu hr0 hnlt hvp hsum hrt hnum
      rw [hpb]
      clear hpb
      gi_wp2
      obtain ⟨C, hC⟩ : ∃ C : World → Prop, C = fun w => Turns (fun b => (Value.slice vp N vc).ownBlock = some b) W2 w := ⟨_, rfl⟩
      have hCi : ∀ w, C w → Turns (fun b => (Value.slice vp N vc).ownBlock = some b) W2 w := by
        rw [hC]
        exact fun _ h => h
      have hCst : StaysC C := by
        rw [hC]
        exact fun w w' h hb => h.trans (Turns.of_below' hb)
      have hown : ∀ k, (Value.slice vp N vc).ownBlock = some k → nn + 2 ≤ k := fun k hk => (HV2.out.lt k hk).1
      have hbC : ∀ w, C w → Below W.heap.size W w := fun w hw => HV7.out.trans ((hCi w hw).below HV7.out.size (fun b hb => by have := hown b hb; have := HQ.out; omega))
      have q3 : ∀ m : InC C, m.world.cell? ⟨b3, 0, none⟩ = some (.slice vp N vc) := fun m => (hCi _ m.ok).cell v1 (fun h => by have h1 : nn + 2 ≤ b3 := hown _ h; have := HQ.out; omega)
      have hib : ∀ m : InC C, m.world.heap[bi]? = some (.cells #[.int .i64 wd, .int .i64 ht, .slice p n c] 25) := fun m => ((hCi _ m.ok).block bi (lt_heapT hi2) (fun h => by have h1 : nn + 2 ≤ bi := hown _ h; have := HQ.out; omega)).trans hi2
      have g0 : ∀ m : InC C, m.world.cell? ⟨bi, 0, none⟩ = some (.int .i64 wd) := fun m => cell_heapT (hib m) rfl
      have g1 : ∀ m : InC C, m.world.cell? ⟨bi, 1, none⟩ = some (.int .i64 ht) := fun m => cell_heapT (hib m) rfl
      have g2 : ∀ m : InC C, m.world.cell? ⟨bi, 2, none⟩ = some (.slice p n c) := fun m => cell_heapT (hib m) rfl
      have qb : ∀ m : InC C, Lies m.world pb r := fun m => lies_block hpa ((hCi _ m.ok).block pb hpl (fun h => Hvp.out _ h rfl))
      have c0 := fun m => (qb m).c0
      have c1 := fun m => (qb m).c1
      have c2 := fun m => (qb m).c2
      have c3 := fun m => (qb m).c3
      have hC2 : C W2 := by rw [hC]; exact Turns.refl _ _
      have hK0 : StaysC (fun w => Below W2.heap.size W2 w) := fun w w' h hb => h.trans (hb.mono h.size)
      have hqq : Nonempty (InC C) := ⟨⟨W2, hC2⟩⟩
      have HC := Lib.hid hC
      have HCi := Lib.hid hCi
      have Hown := Lib.hid hown
      have Hv1 := Lib.hid v1
      have Hv4 := Lib.hid v4
      have HbC := Lib.hid hbC
      clear hC hCi hown hib qb hi2 v1 v4 hpa hbC
      refine wpIn_region_chainT 4 6 C (fun w => Below W2.heap.size W2 w) (by kernel_rfl) (by decide) (by kernel_rfl) (by kernel_rfl) (by kernel_rfl) (by kernel_rfl) (fun h => by obtain ⟨_, _, h⟩ := h; exact h) hCst hC2 hK0 (Below.refl _ _) ?_
      repeat (refine LqC_on (fun K hK => ?_); go_simp; first | (refine hK _ ?_; clear hK K) | (apply Exists.intro; refine ⟨fun m => ?_, hK _ ?_⟩; (exact Hsum.out m.world (HbC.out _ m.ok)); clear hK K))
      refine LqC_nil ?_
      simp only [List.take_succ_cons, List.take_zero, List.drop_succ_cons, List.drop_zero]
      refine ChC_build rfl 1 #[.int .u32 (tlS pw ph L num)] 38 ?hrun hCst hK0 (fun sv => ?_)
      case hrun =>
        intro w'
        first
          | rfl
          | (go_simp; done)
          | kernel_rfl
      refine ChC_append rfl (.tmp 22) (.tmp 26) 23 rfl (nn + 2) 38 nf _ 1 4 Tryz.underlying23 hj0 hj1 hj2 hj3 rfl (by decide) (.slice vp N vc) N ((pre.map fun e => tlS pw ph L e.1).map u32V) rfl sv 1 [u32V (tlS pw ph L num)] rfl rfl ?c2 ?c3 ?c4 ?hin W2.heap.size ?hZ ?hCa (fun v' => ?_)
      case c2 => intro x hx; simp at hx; rw [hx]; rfl
      case c3 => simp only [maxLen]; omega
      case c4 => omega
      case hin =>
        rintro w' - ⟨hk, B, e1, e2⟩
        exact ⟨(Turns.of_below' (T := fun _ => False) hk).owns HV2.out (fun _ _ h => h), Nat.le_trans hs2 hk.size, _, _, e1, .inr ⟨_, rfl, World.news_of_block e2⟩⟩
      case hZ => exact fun w' hw => (HCi.out w' hw).size
      case hCa =>
        intro w' w'' hw _ hg
        rw [HC.out] at hw ⊢
        exact hw.trans (Turns.of_grown hg (fun _ h => h))
      intro w4 hw4 hk4
      obtain ⟨ho4, hp4⟩ := hk4
      have ht4 := HCi.out w4 hw4
      obtain ⟨vp4, vc4, rfl⟩ := owns_slice ho4
      have hb1 : ¬ (Value.slice vp N vc).ownBlock = some b3 := fun e => by have := Hown.out _ e; have := HQ.out; omega
      have x1 := ht4.cell Hv1.out hb1
      have x4 := ht4.free Hv1.out Hv4.out hb1
      have Ho4 := Lib.hid ho4
      have Ht4 := Lib.hid ht4
      have Hg4 := Lib.hid hp4
      clear ho4 ht4 hp4 hw4 hCst hC2 hK0 hqq q3 g0 g1 g2 c0 c1 c2 c3
      go_simp
      go_wp2
      gi_wp2
      have y1 : (w4.setCell ⟨b3, 0, none⟩ (.slice vp4 (N + 1) vc4)).cell? ⟨b3, 0, none⟩ = some (.slice vp4 (N + 1) vc4) := by simp [go_sem, x1]
      have y4 : (w4.setCell ⟨b3, 0, none⟩ (.slice vp4 (N + 1) vc4)).frozen? ⟨b3, 0, none⟩ = false := by simp [go_sem, x4]
      have hts := Turns.set1 b3 w4 (.slice vp4 (N + 1) vc4)
      have hSS := HQ.out
      have hkeep : ∀ b, b < nn + 2 ∨ T b → ¬ (Value.slice vp N vc).ownBlock = some b := fun b hb e => by
        rcases hb with h | h
        · have := Hown.out _ e; omega
        · exact HV3.out _ e h
      refine ⟨⟨⟨⟨_, y1, ?_, fun b hb hT => ?_⟩, y4, by omega, by omega, ?_⟩, ?_⟩, ?_, fun b hb => ?_⟩
      · rw [List.length_append, HNl.out, List.map_append, List.map_append]
        exact hts.owns Ho4.out (fun b hb h => by have := (Ho4.out.lt _ hb).1; omega)
      · rcases Hg4.out b hb with h | h
        · exact HV3.out b h hT
        · have := (HT4.out b hT).2; omega
      · exact HV7.out.trans ((Ht4.out.below HV7.out.size (fun b hb => by have := Hown.out _ hb; omega)).trans (hts.below (Nat.le_trans HV7.out.size Ht4.out.size) (fun b hb => by omega)))
      · exact HTu.out.trans ((Ht4.out.mono (fun b _ hb => .inr (by have := Hown.out _ hb; omega))).trans (hts.mono (fun b _ hb => .inl hb)))
      · exact Nat.le_trans Ht4.out.size hts.size
      · have hb' : b < W2.heap.size ∧ b ≠ b3 ∧ (b < nn + 2 ∨ T b) := by
          rcases hb with hb | hb | hb | hb
          · have := HRb.out b hb; exact ⟨by omega, by omega, .inl (by omega)⟩
          · exact ⟨(HT4.out b hb).2, by have := HT4.out b hb; omega, .inr hb⟩
          · exact ⟨by omega, by omega, .inl (by omega)⟩
          · exact ⟨by omega, by omega, .inl (by omega)⟩
        exact (hts.block b (Nat.lt_of_lt_of_le hb'.1 Ht4.out.size) hb'.2.1).trans (Ht4.out.block b hb'.1 (hkeep b hb'.2.2))
    case done =>
      intro Tp Wq W' hI htt hTp hlt hD
      rw [hnn] at htt hTp hlt hD
      obtain ⟨⟨vb, v1, v2, v3⟩, v4, v5, v6, v7⟩ := hI.1.turn (T := fun _ => False) htt (fun b hb => by
        rcases hb with h | h | h
        · exact .inl h
        · exact .inr (.inl h)
        · exact .inr (.inr h)) hTp (Nat.le_refl _) (fun _ h => h.elim)
      rw [hnn]
      have HD := Lib.hid hD
      have e : (((List.range (tlN pw ph)).map fun i => (i, tlR pw ph i)).map fun e => tlS pw ph L e.1) = S := by rw [HT0.out, List.map_map]; rfl
      have el : ((List.range (tlN pw ph)).map fun i => (i, tlR pw ph i)).length = S.length := by rw [HT0.out]; simp
      rw [e, el] at v2
      obtain ⟨vp, vc, rfl⟩ := owns_slice v2
      have HV2 := Lib.hid v2
      have HV7 := Lib.hid v7
      have hSS := HQ.out
      have Hss := Lib.hid hSS
      clear hI htt hD hI0 v2 v7 e el hSS
      dsimp only
      go_wp2
      refine ⟨by simp, .inl ⟨_, _, rfl, run_takeDeferred HD.out, ?_⟩⟩
      have htd := Turns.put (T := fun b => b = nn) W' nn (.deferred none) rfl
      have hSS := Hss.out
      refine ⟨_, results_tmp rfl _ _ _, _, rfl, ?_, ?_⟩
      · exact htd.owns (owns_baseT HV2.out (by omega)) (fun b hb h => by have := (HV2.out.lt _ hb).1; omega)
      · exact HV7.out.trans (htd.below HV7.out.size (fun b hb => by omega))
  · have d1 : ((n : Int) != z) = true := by simp [hnz]
    have Hnz := Lib.hid hnz
    clear hnz
    go_wp2
    refine leaves_marks [] w1 List.nodup_nil (fun r hr => (by simp at hr)) (fun w' ht => ?_)
    have hS0 : S = [] := by
      rw [← HS.out]
      unfold smL
      rw [if_neg (fun h => Hnz.out (by rw [← Hn.out, Hmul.out h.1]; exact h.2))]
    refine ⟨_, results_tmp rfl _ _ _, _, rfl, ?_, ?_⟩
    · rw [hS0]; exact World.ownsRow_nil _ _ _ _
    · exact Hb1.out.trans (ht.below Hb1.out.size (fun b hb => (by simp at hb)))

end Go.Proofs.YtajoipmchgabfaaGreat
