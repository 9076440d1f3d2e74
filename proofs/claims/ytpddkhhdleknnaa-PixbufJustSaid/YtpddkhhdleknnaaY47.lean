/- region's Is: whether a list is in form. -/
import Derived.Test.YtpddkhhdleknnaaY45
import Derived.Test.YtpddkhhdleknnaaY46
namespace Go.Proofs.Ytpddkhhdleknnaa
open Go.RowKit Go.Shelf

attribute [local go_sem] Oper.semAt_some

/-- Between two rounds of Is' loop. -/
structure IsInv (w W0 : World) (n : Nat) (xs : List Rc) (pre : List (Int × List Rc)) (W : World) : Prop where
  bl : Boxed W w.heap.size 4 (.bool false)
  ab : ∃ va l, Boxed W n 22 va ∧ Row encR 4 W0 va l ∧ (∀ q, va.ownBlock = some q → q < w.heap.size ∨ q = n + 1 ∨ q = n + 1 + 1) ∧ (∀ rest, grp Rc.y xs = pre ++ rest → isRows [] ((grp Rc.y xs).map (·.2)) = isRows l (rest.map (·.2))) ∧ ∀ r ∈ l, r ∈ xs
  below : Below w.heap.size w W
  big : n + 3 ≤ W.heap.size

theorem IsInv.turns {w W0 : World} {n : Nat} {xs : List Rc} {pre : List (Int × List Rc)} {Tp : Nat → Prop} {W W2 : World} (h : IsInv w W0 n xs pre W) (hn : w.heap.size < n) (ht : Turns (fun b => Tp b ∨ b = n + 3 + 1 ∨ b = n + 3) W W2) (hTp : ∀ b, Tp b → n + 4 < b) : IsInv w W0 n xs pre W2 := by
  obtain ⟨h1, ⟨va, l, h2, h3⟩, hb, hbig⟩ := h
  have no : ∀ b, b < n + 3 → ¬ (Tp b ∨ b = n + 3 + 1 ∨ b = n + 3) := fun b hb h => by
    rcases h with h | h
    · have := hTp _ h; omega
    · omega
  refine ⟨ht.boxed h1 (no _ (by omega)), ⟨va, l, ht.boxed h2 (no _ (by omega)), h3⟩, ?_, Nat.le_trans hbig ht.size⟩
  exact hb.trans (ht.below (by omega) (fun i hi => by
    rcases hi with hi | hi
    · have := hTp _ hi; omega
    · omega))

theorem grp_sub {α : Type} {key : α → Int} {xs : List α} {pre rest : List (Int × List α)} {y : Int} {g : List α} (h : grp key xs = pre ++ (y, g) :: rest) : (∀ r ∈ g, r ∈ xs) ∧ g ≠ [] := by
  have hm : (y, g) ∈ grp key xs := by rw [h]; simp
  refine ⟨fun r hr => grp_mem hm hr, ?_⟩
  obtain ⟨z, hz, -⟩ := grp_ne hm
  intro e
  rw [e] at hz
  cases hz

set_option maxRecDepth 100000 in
set_option maxHeartbeats 2000000 in
theorem isRg_any (v : Value) (xs : List Rc) (w : World) (hv : Row encR 4 w v xs) (hf : ∀ r ∈ xs, Fit r) : Makes Try.prog 16 #[v] w (.bool (isL xs)) := by
  unfold Makes
  have Hv := Lib.hid hv
  obtain ⟨p, cap, rfl, hcap, hmax, hp⟩ := hv
  have HR3 : ∀ a, p = some a → a.block < w.heap.size := by
    rintro a rfl
    rcases hp with ⟨h, _⟩ | ⟨b, off, h, h3, _⟩
    · cases h
    · cases h; exact h3
  refine (callsIn_wide (n := 0)).1 ?_
  refine callsIn_of_wp_marks Try.func16 rfl trivial ?_ rfl
  simp only [Try.ntmps16, List.size_toArray, List.length_cons, List.length_nil, Nat.reduceAdd, Nat.reduceSub, Array.replicate_succ, Array.replicate_zero, List.push_toArray, List.append_toArray, List.nil_append, List.cons_append]
  refine wpIn_wide.2 ?_
  go_wp2_with fail
  refine Calls.mono (containsR0_any _ emptyR _ xs _ (Hv.out.below (Below.al1 _ _)) (enters_of Try.func64 (by kernel_rfl) rfl) (fun r hr w1 _ => empty_any r w1 (hf r hr))) ?_
  rintro e w1 ⟨rfl, hb1⟩
  have hB1 : Below w.heap.size w w1 := Below.thn (Below.al1 _ _) hb1
  have bl1 : Boxed w1 w.heap.size 4 (.bool false) := (hb1.block _ (by simp)).trans (World.alloc_heap_new w _)
  have hn1 : w.heap.size < w1.heap.size := bl1.lt
  cases he : xs.any emptyR
  · have He := Lib.hid he
    have hne : ∀ r ∈ xs, emptyR r = false := fun r hr => by
      cases h : emptyR r
      · rfl
      · exact absurd he (by rw [List.any_eq_true.2 ⟨r, hr, h⟩]; simp)
    have Hne := Lib.hid hne
    clear he hne
    go_wp2_with (go_at_call 65; refine Calls.mono (runsR_made _ _ _ _ _) ?_; rintro e w' ⟨rfl, rfl⟩)
    have hg := heap_pushed [.cells #[.slice none 0 0] 22, .cells #[.slice p xs.length cap] 22, .cells #[.func (.func 66) #[] #[]] 90] w1
    simp only [List.foldl_cons, List.foldl_nil] at hg
    have hB0' : Below w1.heap.size w1 (((w1.alloc (.cells #[.slice none 0 0] 22)).alloc (.cells #[.slice p xs.length cap] 22)).alloc (.cells #[.func (.func 66) #[] #[]] 90)) := Below.al3 _ _ _ _
    have hsz : (((w1.alloc (.cells #[.slice none 0 0] 22)).alloc (.cells #[.slice p xs.length cap] 22)).alloc (.cells #[.func (.func 66) #[] #[]] 90)).heap.size = w1.heap.size + 3 := by simp
    generalize (((w1.alloc (.cells #[.slice none 0 0] 22)).alloc (.cells #[.slice p xs.length cap] 22)).alloc (.cells #[.func (.func 66) #[] #[]] 90)) = W0 at *
    have b0 : Boxed W0 w1.heap.size 22 (.slice none 0 0) := (hg 0 _).2 rfl
    have b1 : Boxed W0 (w1.heap.size + 1) 22 (.slice p xs.length cap) := (hg 1 _).2 rfl
    have b2 : Boxed W0 (w1.heap.size + 1 + 1) 90 (.func (.func 66) #[] #[]) := (hg 2 _).2 rfl
    have bl0 : Boxed W0 w.heap.size 4 (.bool false) := Boxed.same bl1 (hB0'.block _ bl1.lt)
    have hB0 : Below w.heap.size w W0 := hB1.trans (hB0'.mono hB1.size)
    clear hg hB0' hb1 bl1
    generalize w1.heap.size = n at *
    have hseq := runsR_iter (n + 1) (n + 1 + 1) p cap xs W0 (fun b => b < w.heap.size ∨ b = n + 1 ∨ b = n + 1 + 1) b1 b2 hcap hmax (hp.below hB0) (fun b hb => by omega) (Or.inr (Or.inl rfl)) (Or.inr (Or.inr rfl)) (fun a e => Or.inl (HR3 a e))
    have Hno := Lib.hid (show isL xs = isRows [] ((grp Rc.y xs).map (·.2)) by simp [isL, He.out])
    refine (wpIn_wide (n := 0)).1 ?_
    refine wpIn_rangeFunc_turns (gf := 106) (El := ElRunsR (fun b => b < w.heap.size ∨ b = n + 1 ∨ b = n + 1 + 1)) (xs := grp Rc.y xs) (w0 := W0) ?hg ?eg hseq ?hs0 ?hRr ?hps
      (fun pre _ W => IsInv w W0 n xs pre W) (fun c _ _ W => c = .ret ∧ isL xs = false ∧ Boxed W w.heap.size 4 (.bool false) ∧ Below w.heap.size w W ∧ n + 3 ≤ W.heap.size) ?start (fun vs => { tmps := #[.slice p xs.length cap, undef, .pointer (some ⟨w.heap.size, 0, none⟩), .pointer (some ⟨n, 0, none⟩), undef, vs.getD 1 undef, .slice p xs.length cap, .bool false, .slice p xs.length cap, .func (.func 106) #[] #[.pointer (some ⟨n + 1, 0, none⟩), .pointer (some ⟨n + 1 + 1, 0, none⟩)], vs.getD 0 undef, vs.getD 1 undef, undef, undef, undef, undef, undef, undef, undef, undef, undef, undef], defers := [] }) ?assign ?body ?done ?stop
    case hg => rfl
    case eg => exact enters_of Try.func106 (by kernel_rfl) rfl
    case hs0 => exact Nat.le_refl _
    case hRr => exact fun q hq => ⟨by omega, rfl⟩
    case hps =>
      rintro _ _ _ _ _ ⟨v, h, _⟩
      rw [h]; rfl
    case start => exact ⟨bl0, ⟨_, [], b0, ⟨none, 0, rfl, Nat.le_refl _, by simp [maxLen], .inl ⟨rfl, rfl⟩⟩, fun q hq => (by cases hq), fun rest h => by rw [h]; rfl, fun r hr => by cases hr⟩, hB0, by omega⟩
    case assign =>
      intro l vs W K hvs hK
      obtain ⟨v0, v1, rfl⟩ := size_two hvs
      gi_wp2
      first
        | exact hK
        | simpa using hK
        | simpa [Array.zip, Array.zipWith] using hK
    case body =>
      rintro pre ⟨y, g⟩ rest Tp T Wq Wp W1 W2 vs hxs hI htqp hsq ht2 hTp hT hT2 hR2 ⟨v, rfl, hv, hvR⟩ h12 hs12 hLt hL1 hD2 hL2
      simp only [hsz] at ht2 hTp hT2 h12 hLt hL1 hD2 hL2 htqp ⊢
      have hI2 : IsInv w W0 n xs pre W2 := hI.turns hn1 ht2 (fun b hb => (hTp b hb).1)
      have hv2 : Row encR 4 W2 v g := hv.turns h12 (fun b hb e => by have := hvR b hb; omega)
      have hv2' := hv2
      obtain ⟨vq, vc, rfl, -, -, -⟩ := hv2'
      have hv0 : Row encR 4 W0 (.slice vq g.length vc) g := hv2.same (fun b hb => (hR2 b (hvR b hb)).symm)
      obtain ⟨hgx, hgne⟩ := grp_sub hxs
      obtain ⟨blI, ⟨va, l, bab, hrow0, hvaR, hrows, hlx⟩, hbI, hbigI⟩ := hI2
      have hrow2 : Row encR 4 W2 va l := hrow0.same (fun b hb => hR2 b (hvaR b hb))
      have hstep : isRows [] ((grp Rc.y xs).map (·.2)) = ((isBandB g && followsB l g) && isRows g (rest.map (·.2))) := by
        rw [hrows _ hxs]; rfl
      have hgb : ∀ r ∈ g, (-4294967296 ≤ r.x ∧ r.x ≤ 4294967296) ∧ (-4294967296 ≤ r.a ∧ r.a ≤ 4294967296) := fun r hr => by
        have := emptyR_false.1 (Hne.out r (hgx r hr)); omega
      have hlb : ∀ r ∈ l, (-4294967296 ≤ r.y ∧ r.y ≤ 4294967296) ∧ (-4294967296 ≤ r.b ∧ r.b ≤ 4294967296) := fun r hr => by
        have := emptyR_false.1 (Hne.out r (hlx r hr)); omega
      have hlen0 : 0 < g.length := List.length_pos_iff.2 hgne
      have fin : ∀ (w4 : World), Below W2.heap.size W2 w4 → ∀ (B : Nat) (u : Value), (B = w.heap.size ∨ B = n) → ∀ W', W' = w4.setCell ⟨B, 0, none⟩ u → Below w.heap.size w W' ∧ n + 3 ≤ W'.heap.size ∧ W2.heap.size ≤ W'.heap.size ∧ ∀ b, (b < w.heap.size ∨ b = n + 1 ∨ b = n + 1 + 1) ∨ T b ∨ b = n + 3 + 1 ∨ b = n + 3 → W'.heap[b]? = W2.heap[b]? := by
        rintro w4 hb4 B u hBB W' rfl
        have hS := (Turns.of_below' (T := fun b => b = B) hb4).set (p := ⟨B, 0, none⟩) rfl u
        refine ⟨hbI.trans (hS.below (by omega) (fun i hi => by omega)), Nat.le_trans hbigI hS.size, hS.size, fun b hb => hS.block b ?_ (fun h => ?_)⟩
        · rcases hb with hb | hb | hb
          · omega
          · exact (hT2 b hb).2
          · omega
        · rcases hb with hb | hb | hb
          · omega
          · have := (hT2 b hb).1; omega
          · omega
      have Hfin := Lib.hid fin
      have Hrow2 := Lib.hid hrow2
      have Hv2 := Lib.hid hv2
      have Hv0 := Lib.hid hv0
      have HblI := Lib.hid blI
      have Hbab := Lib.hid bab
      have Hstep := Lib.hid hstep
      have Hrows := Lib.hid hrows
      have HvR := Lib.hid hvR
      have Hgx := Lib.hid hgx
      have Hxs := Lib.hid hxs
      have HbigI := Lib.hid hbigI
      have cab := bab.cell
      have e0 : (#[.int .i64 y, .slice vq g.length vc] : Array Value).getD 0 undef = .int .i64 y := rfl
      have e1 : (#[.int .i64 y, .slice vq g.length vc] : Array Value).getD 1 undef = .slice vq g.length vc := rfl
      rw [e0, e1]
      clear e0 e1 hI ht2 hTp hT hR2 h12 hv htqp b0 b1 b2 bl0 hB0 hseq hp HR3 fin hrow2 hv2 hv0 blI bab hstep hrows hvR hgx hxs hrow0 hvaR hlx hgne hsq hs12 hL1 hD2 hL2 hbI hbigI
      dsimp only at *
      gi_wp2
      refine ⟨trivial, rfl, (CallsIn.inRound _ (callsIn_wide.2 (isBand_any _ g _ Hv2.out hgb))).mono ?_⟩
      rintro e w3 ⟨rfl, hb3⟩
      have Hb3 := Lib.hid hb3
      have cab3 := cell_later hb3 cab
      cases h1 : isBandB g
      · have H1 := Lib.hid h1
        have Hbl3 := Lib.hid (Boxed.same HblI.out (hb3.block _ HblI.out.lt))
        have cl3 := Hbl3.out.cell
        have fl3 := Hbl3.out.frozen
        clear h1 hb3
        gi_wp2
        refine ⟨trivial, ?_⟩
        gi_wp2
        have F := Hfin.out _ Hb3.out w.heap.size (.bool false) (.inl rfl) _ rfl
        exact ⟨⟨rfl, by rw [Hno.out, Hstep.out, H1.out]; rfl, Hbl3.out.set _, F.1, F.2.1⟩, F.2.2⟩
      · have H1 := Lib.hid h1
        clear h1 hb3
        gi_wp2
        refine ⟨trivial, rfl, (CallsIn.inRound _ (callsIn_wide.2 (follows_any va _ l g _ (Hrow2.out.below Hb3.out) (Hv2.out.below Hb3.out) hlen0 hlb))).mono ?_⟩
        rintro e w4 ⟨rfl, hb4⟩
        have Hb4 := Lib.hid (Below.thn Hb3.out hb4)
        have Hbl4 := Lib.hid (Boxed.same HblI.out (Hb4.out.block _ HblI.out.lt))
        have Hab4 := Lib.hid (Boxed.same Hbab.out (Hb4.out.block _ Hbab.out.lt))
        clear cab cab3
        cases h2 : followsB l g
        · have H2 := Lib.hid h2
          have cl3 := Hbl4.out.cell
          have fl3 := Hbl4.out.frozen
          clear h2 hb4
          gi_wp2
          have F := Hfin.out _ Hb4.out w.heap.size (.bool false) (.inl rfl) _ rfl
          exact ⟨⟨rfl, by rw [Hno.out, Hstep.out, H2.out]; simp, Hbl4.out.set _, F.1, F.2.1⟩, F.2.2⟩
        · have H2 := Lib.hid h2
          have cl3 := Hab4.out.cell
          have fl3 := Hab4.out.frozen
          clear h2 hb4
          gi_wp2
          have F := Hfin.out _ Hb4.out n (.slice vq g.length vc) (.inr rfl) _ rfl
          refine ⟨⟨?_, ⟨_, g, Hab4.out.set _, Hv0.out, HvR.out, fun rest' h => ?_, fun r hr => Hgx.out r hr⟩, F.1, F.2.1⟩, F.2.2⟩
          · exact (Turns.set1 n w4 _).boxed Hbl4.out (by omega)
          · have e : rest' = rest := by
              have := Hxs.out.symm.trans h
              simpa using this.symm
            rw [e, Hstep.out, H1.out, H2.out]; rfl
    case stop =>
      rintro c pre Tp Wq W hpre ⟨rfl, hno, hbq, hbw, hbig⟩ htt hTp hlt hD
      rw [hsz] at htt hTp hlt hD
      have no : ∀ b, b < n + 3 → ¬ (Tp b ∨ b = n + 3 + 1 ∨ b = n + 3) := fun b hb h => by
        rcases h with h | h
        · have := hTp _ h; omega
        · omega
      have hb2 := htt.boxed hbq (no _ (by omega))
      have hw2 : Below w.heap.size w W := hbw.trans (htt.below (by omega) (fun i hi => by
        rcases hi with hi | hi
        · have := hTp _ hi; omega
        · omega))
      rw [hsz]
      have HD := Lib.hid hD
      have Hb2 := Lib.hid hb2
      have Hw2 := Lib.hid hw2
      have Hn := Lib.hid hno
      clear htt hD hb2 hw2 hbq hbw b0 b1 b2 hseq hpre hno no
      dsimp only
      gi_wp2
      refine ⟨by simp, .inl ⟨_, _, rfl, run_takeDeferred HD.out, ?_⟩⟩
      refine ⟨_, results_box (B := w.heap.size) (r := false) rfl rfl ?_, by rw [Hn.out], ?_⟩
      · exact ((Turns.put (T := fun q => q = n + 3) _ _ _ rfl).boxed Hb2.out (by omega)).cell
      · exact Hw2.out.trans (belowK_b (w := w) (Nat.le_refl _) W _ _ _ (by omega) HD.out rfl rfl)
    case done =>
      intro Tp Wq W hI htt hTp hlt hD
      rw [hsz] at htt hTp hlt hD
      have hI2 := hI.turns hn1 htt (fun b hb => hTp b hb)
      obtain ⟨blI, ⟨va, l, -, -, -, hrows, -⟩, hbI, -⟩ := hI2
      have hx : isL xs = true := by
        rw [Hno.out, hrows [] (by simp)]; rfl
      rw [hsz]
      have HD := Lib.hid hD
      have Hx := Lib.hid hx
      have HblI := Lib.hid blI
      have HbI := Lib.hid hbI
      have cl := blI.cell
      have fl := blI.frozen
      clear hI htt hD blI hbI hrows b0 b1 b2 hseq hx
      dsimp only
      go_wp2
      have hS := Turns.set1 w.heap.size W (.bool true)
      have HD2 : (W.setCell ⟨w.heap.size, 0, none⟩ (.bool true)).heap[n + 3]? = some (.deferred (some [])) := (hS.block _ (by omega) (by omega)).trans HD.out
      refine ⟨by simp, .inl ⟨_, _, rfl, run_takeDeferred HD2, ?_⟩⟩
      refine ⟨_, results_box (B := w.heap.size) (r := true) rfl rfl ?_, by rw [Hx.out], ?_⟩
      · exact ((Turns.put (T := fun q => q = n + 3) _ _ _ rfl).boxed (HblI.out.set _) (by omega)).cell
      · exact (HbI.out.trans (hS.below (by omega) (fun i hi => by omega))).trans (belowK_b (w := w) (Nat.le_refl _) _ _ _ _ (by omega) HD2 rfl rfl)
  · have He := Lib.hid he
    clear he
    have cl := bl1.cell
    have fl := bl1.frozen
    go_wp2
    refine ⟨_, results_box (B := w.heap.size) (r := false) rfl rfl (bl1.set (.bool false)).cell, by simp [isL, He.out], ?_⟩
    exact hB1.trans ((Turns.set1 w.heap.size w1 (.bool false)).below hB1.size (fun i hi => by omega))

end Go.Proofs.Ytpddkhhdleknnaa
