/- region's Area: how many pixels a list has, summed over the bands. -/
import Derived.Test.YtjigdgfanpeibaaTC29
import Derived.Test.YtjigdgfanpeibaaTC45
namespace Go.Proofs.Ytjigdgfanpeibaa
open Go.RowKit Go.Shelf

attribute [local go_sem] Oper.semAt_some

/-- Between two rounds of Area's loop over bands. -/
structure AreaInv (w : World) (pre : List (List Rc)) (W : World) : Prop where
  bl : Boxed W w.heap.size 3 (.int .i64 (areaS pre.flatten))
  below : Below w.heap.size w W
  big : w.heap.size + 4 ≤ W.heap.size

theorem AreaInv.turns {w : World} {pre : List (List Rc)} {Tp : Nat → Prop} {W W2 : World} (h : AreaInv w pre W) (ht : Turns (fun b => Tp b ∨ b = w.heap.size + 4 + 1 ∨ b = w.heap.size + 4) W W2) (hTp : ∀ b, Tp b → w.heap.size + 5 < b) : AreaInv w pre W2 := by
  obtain ⟨h1, hb, hbig⟩ := h
  refine ⟨ht.boxed h1 (fun h => ?_), ?_, Nat.le_trans hbig ht.size⟩
  · rcases h with h | h
    · have := hTp _ h; omega
    · omega
  · exact hb.trans (ht.below (by omega) (fun i hi => by
      rcases hi with hi | hi
      · have := hTp _ hi; omega
      · omega))

theorem areaS_take (xs : List Rc) (k : Nat) (h : k < xs.length) : areaS (xs.take (k + 1)) = areaS (xs.take k) + areaR xs[k] := by
  rw [List.take_succ_eq_append_getElem h, areaS_append]; simp [areaS]

theorem areaR_nonneg (r : Rc) : 0 ≤ areaR r := by
  have := areaS_nonneg [r]
  simpa [areaS] using this

/-- A row whose block is not one of cells has no element. -/
theorem Row.apart {W : World} {v : Value} {xs : List Rc} (h : Row encR 4 W v xs) (hne : xs ≠ []) {b : Nat} (hl : ∃ r, W.heap[b]? = some (.loop r)) : ∀ q, v.ownBlock = some q → q ≠ b := by
  obtain ⟨r, hr⟩ := hl
  obtain ⟨p, cap, rfl, -, -, hp⟩ := h
  obtain ⟨b', off, rfl, hB, hc⟩ := hp.rc (List.length_pos_iff.2 hne)
  have c0 := (hc 0 (List.length_pos_iff.2 hne)).c0
  rintro q ⟨⟩ rfl
  simp [World.cell?, hr] at c0

set_option maxRecDepth 100000 in
set_option maxHeartbeats 2000000 in
theorem regArea_any (v : Value) (xs : List Rc) (w : World) (hv : Row encR 4 w v xs) (hfa : ∀ r ∈ xs, Fit r) (hlen : xs.length ≤ 67108864) :
    Makes Try.prog 37 #[v] w (.int .i64 (areaS (formL (fun p _ => p) xs []))) := by
  unfold Makes
  have Ha := Lib.hid hv
  obtain ⟨pa, cpa, rfl, -, -, hpa⟩ := hv
  have hla : ∀ q, (Value.slice pa xs.length cpa).ownBlock = some q → q < w.heap.size := fun q hq => by
    rcases hpa with ⟨rfl, _⟩ | ⟨b, off, rfl, h3, _⟩
    · cases hq
    · cases hq; exact h3
  clear hpa
  refine (callsIn_wide (n := 0)).1 ?_
  refine callsIn_of_wp_marks Try.func37 rfl trivial ?_ rfl
  simp only [Try.ntmps37, List.size_toArray, List.length_cons, List.length_nil, Nat.reduceAdd, Nat.reduceSub, Array.replicate_succ, Array.replicate_zero, List.push_toArray, List.append_toArray, List.nil_append, List.cons_append]
  refine wpIn_wide.2 ?_
  go_wp2_with (go_at_call 65; refine Calls.mono (bands_made _ _ _ _ _ _ _ _) ?_; rintro e w' ⟨rfl, rfl⟩)
  have hB0 : Below w.heap.size w ((((w.alloc (.cells #[.int .i64 0] 3)).alloc (.cells #[.slice pa xs.length cpa] 57)).alloc (.cells #[.slice none 0 0] 57)).alloc (.cells #[.func (.func 69) #[] #[]] 106)) := Below.al (Below.al (Below.al (Below.al1 _ _) _) _) _
  have hg := heap_pushed [.cells #[.int .i64 0] 3, .cells #[.slice pa xs.length cpa] 57, .cells #[.slice none 0 0] 57, .cells #[.func (.func 69) #[] #[]] 106] w
  simp only [List.foldl_cons, List.foldl_nil] at hg
  have hsz : ((((w.alloc (.cells #[.int .i64 0] 3)).alloc (.cells #[.slice pa xs.length cpa] 57)).alloc (.cells #[.slice none 0 0] 57)).alloc (.cells #[.func (.func 69) #[] #[]] 106)).heap.size = w.heap.size + 4 := by simp
  generalize ((((w.alloc (.cells #[.int .i64 0] 3)).alloc (.cells #[.slice pa xs.length cpa] 57)).alloc (.cells #[.slice none 0 0] 57)).alloc (.cells #[.func (.func 69) #[] #[]] 106)) = W0 at *
  have bl : Boxed W0 w.heap.size 3 (.int .i64 0) := (hg 0 _).2 rfl
  have b1 : Boxed W0 (w.heap.size + 1) 57 (.slice pa xs.length cpa) := (hg 1 _).2 rfl
  have b2 : Boxed W0 (w.heap.size + 1 + 1) 57 (.slice none 0 0) := (hg 2 _).2 rfl
  have b3 : Boxed W0 (w.heap.size + 1 + 1 + 1) 106 (.func (.func 69) #[] #[]) := (hg 3 _).2 rfl
  clear hg
  have hseq := bands_iter (w.heap.size + 1) (w.heap.size + 1 + 1) (w.heap.size + 1 + 1 + 1) _ (.slice pa xs.length cpa) (.slice none 0 0) xs [] _ W0 (fun q => q < w.heap.size ∨ q = w.heap.size + 1 ∨ q = w.heap.size + 1 + 1 ∨ q = w.heap.size + 1 + 1 + 1) rfl meant_area b1 b2 b3 (Ha.out.below hB0) ⟨none, 0, rfl, Nat.le_refl _, by simp [maxLen], .inl ⟨rfl, rfl⟩⟩ hfa (fun r hr => by cases hr) (by simpa using hlen) (fun q hq => by omega) (.inr (.inl rfl)) (.inr (.inr (.inl rfl))) (.inr (.inr (.inr rfl))) (fun q hq => .inl (hla q hq)) (fun q hq => by cases hq)
  have hAll : ∀ pre : List (List Rc), (∃ rest, bandsOf (stripsL (fun p _ => p) xs []) = pre ++ rest) → areaS pre.flatten ≤ 4398046511104 := by
    rintro pre ⟨rest, h⟩
    have h1 := (area_bound (fun p _ => p) rfl xs []).2
    unfold formL at h1
    rw [h, List.flatten_append, areaS_append] at h1
    have := areaS_nonneg rest.flatten
    omega
  have Hf : ∀ r ∈ (bandsOf (stripsL (fun p _ => p) xs [])).flatten, Fit r := form_fit (fun p _ => p) rfl xs []
  have HAll := Lib.hid hAll
  have HF := Lib.hid Hf
  clear hAll Hf
  refine (wpIn_wide (n := 0)).1 ?_
  refine wpIn_rangeFunc_turns (gf := 92) (El := ElBand) (xs := bandsOf (stripsL (fun p _ => p) xs [])) (w0 := W0) ?hg ?eg hseq ?hs0 ?hRr ?hps
    (fun pre _ W => AreaInv w pre W) (fun _ _ _ _ => False) ?start (fun vs => { tmps := #[.slice pa xs.length cpa, undef, .int .i64 0, .pointer (some ⟨w.heap.size, 0, none⟩), vs.getD 0 undef, undef, undef, .slice pa xs.length cpa, .func (.func 92) #[] #[.pointer (some ⟨w.heap.size + 1, 0, none⟩), .pointer (some ⟨w.heap.size + 1 + 1, 0, none⟩), .pointer (some ⟨w.heap.size + 1 + 1 + 1, 0, none⟩)], vs.getD 0 undef, undef, undef, undef, undef, undef, undef, undef, undef, undef, undef, undef, undef], defers := [] }) ?assign ?body ?done ?stop
  case hg => rfl
  case eg => exact enters_of Try.func92 (by kernel_rfl) rfl
  case hs0 => exact Nat.le_refl _
  case hRr => exact fun q hq => ⟨by omega, rfl⟩
  case hps =>
    rintro _ _ _ _ _ ⟨v, h, _⟩
    rw [h]; rfl
  case start => exact ⟨bl, hB0, by omega⟩
  case assign =>
    intro l vs W K hvs hK
    obtain ⟨v0, rfl⟩ := size_one hvs
    gi_wp2
    first
      | exact hK
      | simpa using hK
      | simpa [Array.zip, Array.zipWith] using hK
  case stop => exact fun _ _ _ _ _ _ h => h.elim
  case body =>
    rintro pre x rest Tp T Wq Wp W1 W2 vs hxs hI htqp hsq ht2 hTp hT hT2 hR2 ⟨v1, rfl, hv1, hx⟩ h12 hs12 hLt hL1 hD2 hL2
    simp only [hsz] at ht2 hTp hT2 h12 hLt hL1 hD2 hL2 htqp ⊢
    have hI2 : AreaInv w pre W2 := hI.turns ht2 (fun b hb => (hTp b hb).1)
    have hv2 : Row encR 4 W2 v1 x := hv1.turns h12 (fun q hq e => hv1.apart hx hL1 q hq e)
    have hown : ∀ q, v1.ownBlock = some q → q ≠ w.heap.size := by
      intro q hq e
      subst e
      have hb0 := hI2.bl
      obtain ⟨p', c', rfl, -, -, hp'⟩ := hv2
      obtain ⟨b', off, rfl, hB, hc⟩ := hp'.rc (List.length_pos_iff.2 hx)
      have c2 := (hc 0 (List.length_pos_iff.2 hx)).c2
      cases hq
      unfold Boxed at hb0
      simp [World.cell?, hb0] at c2
    have hn := hv2.len
    obtain ⟨q, cap, rfl, hq1, hq2, hq⟩ := hv2
    have hA : areaS (pre.flatten ++ x) ≤ 4398046511104 := by
      have := HAll.out (pre ++ [x]) ⟨rest, by rw [hxs]; simp⟩
      simpa using this
    have hA0 := areaS_nonneg pre.flatten
    have hfx : ∀ r ∈ x, Fit r := fun r hr => HF.out r (by rw [hxs]; simp [hr])
    have HA := Lib.hid hA
    have Hfx := Lib.hid hfx
    have HI2 := Lib.hid hI2
    have Hown := Lib.hid hown
    have HT2 := Lib.hid hT2
    clear hI ht2 hTp hT hR2 h12 htqp bl b1 b2 b3 hseq hA hfx hxs hsq hs12 hL1 hD2 hL2 hI2 hv1 hown hT2
    have e0 : (#[.slice q x.length cap] : Array Value).getD 0 undef = .slice q x.length cap := rfl
    rw [e0]
    clear e0
    gi_wp2
    gi_loopw [12] (fun i wr => ∃ k : Nat, k ≤ x.length ∧ i = .int .i64 k ∧ Boxed wr w.heap.size 3 (.int .i64 (areaS (pre.flatten ++ x.take k))) ∧ Turns (fun b => b = w.heap.size) W2 wr) (fun i _ => x.length - (intOf i).toNat)
    case atStart => exact ⟨0, by omega, rfl, by simpa using HI2.out.bl, Turns.refl _ _⟩
    case round =>
      obtain ⟨k, hk, rfl, hbx, htr⟩ := hrel
      by_cases hlt : k < x.length
      · have hrow : RowAt encR 4 wr q x := hq.turns htr (fun a e h => Hown.out a.block (by rw [e]; rfl) h)
        obtain ⟨b, off, rfl, hB, hc⟩ := hrow.rc hlt
        obtain ⟨a0, a1, a2, a3⟩ := hc k hlt
        have hft := Hfx.out x[k] (List.getElem_mem hlt)
        have Hnext := Lib.hid (show areaS (pre.flatten ++ x.take (k + 1)) = areaS (pre.flatten ++ x.take k) + areaR x[k] by
          rw [areaS_append, areaS_append, areaS_take _ _ hlt]; omega)
        have hbd : 0 ≤ areaS (pre.flatten ++ x.take k) ∧ 0 ≤ areaR x[k] ∧ areaS (pre.flatten ++ x.take k) + areaR x[k] ≤ 4398046511104 := by
          refine ⟨areaS_nonneg _, areaR_nonneg _, ?_⟩
          rw [← Hnext.out]
          have h1 := HA.out
          have h2 : areaS (pre.flatten ++ x) = areaS (pre.flatten ++ x.take (k + 1)) + areaS (x.drop (k + 1)) := by
            rw [← areaS_append, List.append_assoc, List.take_append_drop]
          have := areaS_nonneg (x.drop (k + 1))
          omega
        have Hbx := Lib.hid hbx
        have Htr := Lib.hid htr
        clear hc hrow hbx htr
        generalize x[k] = r at *
        generalize areaS (pre.flatten ++ x.take k) = A at *
        have hw : IntKind.i64.wrap (A + areaR r) = A + areaR r := IntWalk.i64_in _ (by omega)
        gi_wp2
        have hal := Below.al1 wr (.cells #[.int .i64 r.x, .int .i64 r.y, .int .i64 r.a, .int .i64 r.b] 38)
        obtain ⟨n0, n1, n2, n3⟩ : Lies (wr.alloc (.cells #[.int .i64 r.x, .int .i64 r.y, .int .i64 r.a, .int .i64 r.b] 38)) wr.heap.size r := Lies.new rfl
        have bx := Boxed.same Hbx.out (hal.block _ Hbx.out.lt)
        have hwlt := Hbx.out.lt
        have Hal := Lib.hid hal
        clear hal a0 a1 a2 a3
        generalize (wr.alloc (.cells #[.int .i64 r.x, .int .i64 r.y, .int .i64 r.a, .int .i64 r.b] 38)) = We at *
        have Hrel := Lib.hid (show ∀ W3 W4, Below We.heap.size We W3 → W4 = W3.setCell ⟨w.heap.size, 0, none⟩ (.int .i64 (A + areaR r)) → Boxed W4 w.heap.size 3 (.int .i64 (areaS (pre.flatten ++ x.take (k + 1)))) ∧ Turns (fun b => b = w.heap.size) W2 W4 from by
          rintro W3 W4 hb3 rfl
          rw [Hnext.out]
          have b4 := Boxed.same bx (hb3.block _ bx.lt)
          exact ⟨b4.set _, ((Htr.out.trans (Turns.of_below' Hal.out)).trans (Turns.of_below' hb3)).set rfl _⟩)
        have cx := bx.cell
        have fx := bx.frozen
        have hmix : Try.prog.follows .mixedOrders = true := by kernel_rfl
        gi_region_with_o (refine ⟨trivial, rfl, (CallsIn.inRound _ (callsIn_wide.2 (area_any r _ hft))).mono ?_⟩; rintro e w6 ⟨rfl, hb6⟩; have bx6 := Boxed.same bx (hb6.block _ bx.lt); have cx6 := bx6.cell; have fx6 := bx6.frozen)
        all_goals
          gi_wp2
          go_roundw
          case rel => exact ⟨k + 1, by omega, by go_num, Hrel.out _ _ (by first | exact hb6 | exact ⟨hb6.os, hb6.tape, hb6.output, hb6.size, hb6.block⟩) rfl⟩
          case measure => simp [intOf]; omega
      · obtain rfl : k = x.length := by omega
        rw [List.take_length] at hbx
        have HFIN := Lib.hid (show AreaInv w (pre ++ [x]) wr ∧ W2.heap.size ≤ wr.heap.size ∧ ∀ b, (b < w.heap.size ∨ b = w.heap.size + 1 ∨ b = w.heap.size + 1 + 1 ∨ b = w.heap.size + 1 + 1 + 1) ∨ T b ∨ b = w.heap.size + 4 + 1 ∨ b = w.heap.size + 4 → wr.heap[b]? = W2.heap[b]? from by
          refine ⟨⟨by simpa using hbx, HI2.out.below.trans (htr.below HI2.out.below.size (fun i hi => by omega)), Nat.le_trans HI2.out.big htr.size⟩, htr.size, fun b hb => htr.block b ?_ (fun h => ?_)⟩
          · have := HI2.out.big
            rcases hb with hb | hb | hb
            · omega
            · exact (HT2.out b hb).2
            · omega
          · rcases hb with hb | hb | hb
            · omega
            · have := (HT2.out b hb).1; omega
            · omega)
        clear hbx htr
        gi_wp2
        exact HFIN.out
  case done =>
    intro Tp Wq W hI htt hTp hlt hD
    rw [hsz] at htt hTp hlt hD
    have hI2 := hI.turns htt (fun b hb => hTp b hb)
    rw [hsz]
    have HD := Lib.hid hD
    have HI2 := Lib.hid hI2
    have cl := hI2.bl.cell
    clear hI htt hD hI2 bl b1 b2 b3 hseq
    dsimp only
    go_wp2
    refine ⟨by simp, .inl ⟨_, _, rfl, run_takeDeferred HD.out, ?_⟩⟩
    refine ⟨_, results_tmp rfl _ _ _, rfl, ?_⟩
    exact HI2.out.below.trans (belowK_b (w := w) (Nat.le_refl _) W _ _ _ (by omega) HD.out rfl rfl)

end Go.Proofs.Ytjigdgfanpeibaa
