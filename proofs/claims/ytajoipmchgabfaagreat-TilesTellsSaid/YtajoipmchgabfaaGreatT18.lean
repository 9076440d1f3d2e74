/- Several texts in one, each with its own head. -/
import Derived.Test.YtajoipmchgabfaaGreatT17
/- region's form: the bands' rectangles in one list. -/
namespace Go.Proofs.YtajoipmchgabfaaGreat
open Go.RowKit Go.Shelf

attribute [local go_sem] Oper.semAt_some

/-- A row of rectangles, not empty, as the source of an append. -/
theorem RowAt.srcR {W : World} {p : Option Addr} {xs : List Rc} (h : RowAt encR 4 W p xs) (hne : xs ≠ []) : ∃ ad, p = some ad ∧ ∀ j u, (flatR xs)[j]? = some u → W.cell? (ad.add j) = some u := by
  rcases h with ⟨rfl, rfl⟩ | ⟨b, off, rfl, h3, h4⟩
  · exact (hne rfl).elim
  · refine ⟨_, rfl, fun j u hu => ?_⟩
    have h1 := flat_at (enc := encR) (k := 4) (fun _ => rfl) xs (j / 4) (j % 4) (by omega)
    rw [show j / 4 * 4 + j % 4 = j by omega] at h1
    unfold flatR at hu
    rw [hu] at h1
    cases hx : xs[j / 4]? with
    | none => rw [hx] at h1; cases h1
    | some x =>
      rw [hx] at h1
      have := h4 (j / 4) x hx (j % 4) u h1.symm
      rw [show off + j / 4 * 4 + j % 4 = off + j by omega] at this
      rw [Addr.add_lit]
      exact this

theorem encR_one (l : List Rc) : ∀ u ∈ flatR l, u.oneCell' = true := by
  intro u hu
  simp only [flatR, List.mem_flatMap] at hu
  obtain ⟨r, _, hu⟩ := hu
  simp [encR] at hu
  rcases hu with rfl | rfl | rfl | rfl <;> rfl

/-- Between two rounds of form's loop. -/
structure FormInv (w : World) (pre : List (List Rc)) (T : Nat → Prop) (W : World) : Prop where
  bl : ∃ v, Boxed W w.heap.size 22 v ∧ W.ownsRow w.heap.size 37 4 v pre.flatten.length (flatR pre.flatten) ∧ ∀ k, v.ownBlock = some k → ¬ T k ∧ w.heap.size + 5 < k
  below : Below w.heap.size w W
  big : w.heap.size + 4 ≤ W.heap.size

theorem FormInv.turns {w : World} {pre : List (List Rc)} {Tp T : Nat → Prop} {W W2 : World} (h : FormInv w pre Tp W) (ht : Turns (fun b => Tp b ∨ b = w.heap.size + 4 + 1 ∨ b = w.heap.size + 4) W W2)
    (hTp : ∀ b, Tp b → w.heap.size + 5 < b) (hT : ∀ b, b < W.heap.size → T b → Tp b) : FormInv w pre T W2 := by
  obtain ⟨⟨v, h1, h2, h3⟩, hb, hbig⟩ := h
  refine ⟨⟨v, ht.boxed h1 (fun h => ?_), ht.owns h2 (fun k hk hh => ?_), fun k hk => ⟨fun hh => (h3 k hk).1 (hT k (h2.lt k hk).2 hh), (h3 k hk).2⟩⟩, ?_, Nat.le_trans hbig ht.size⟩
  · rcases h with h | h
    · have := hTp _ h; omega
    · omega
  · rcases hh with hh | hh
    · exact (h3 k hk).1 hh
    · have := (h3 k hk).2; omega
  · exact hb.trans (ht.below (by omega) (fun i hi => by
      rcases hi with hi | hi
      · have := hTp _ hi; omega
      · omega))

set_option maxRecDepth 100000 in
set_option maxHeartbeats 2000000 in
theorem form_any (va vb : Value) (a b : List Rc) (gm : Nat) (mf : Bool → Bool → Bool) (w : World) (hff : mf false false = false) (hgm : Meant gm mf) (ha : Row encR 4 w va a) (hb : Row encR 4 w vb b) (hfa : ∀ r ∈ a, Fit r) (hfb : ∀ r ∈ b, Fit r) (hlen : a.length + b.length ≤ 67108864)
    (hout : (bandsOf (stripsL mf a b)).flatten.length ≤ 4398046511104) :
    Calls Tryz.prog 34 #[va, vb, .func (.func gm) #[] #[]] w fun e w' =>
      ∃ u, e = .returned u ∧ w'.ownsRow w.heap.size 37 4 u (bandsOf (stripsL mf a b)).flatten.length (flatR (bandsOf (stripsL mf a b)).flatten) ∧ Below w.heap.size w w' := by
  have Ha := Lib.hid ha
  have Hb := Lib.hid hb
  obtain ⟨pa, cpa, rfl, -, -, hpa⟩ := ha
  obtain ⟨pb, cpb, rfl, -, -, hpb⟩ := hb
  have hla : ∀ q, (Value.slice pa a.length cpa).ownBlock = some q → q < w.heap.size := fun q hq => by
    rcases hpa with ⟨rfl, _⟩ | ⟨b, off, rfl, h3, _⟩
    · cases hq
    · cases hq; exact h3
  have hlb : ∀ q, (Value.slice pb b.length cpb).ownBlock = some q → q < w.heap.size := fun q hq => by
    rcases hpb with ⟨rfl, _⟩ | ⟨b, off, rfl, h3, _⟩
    · cases hq
    · cases hq; exact h3
  clear hpa hpb
  refine (callsIn_wide (n := 0)).1 ?_
  refine callsIn_of_wp_marks Tryz.func34 rfl trivial ?_ rfl
  simp only [Tryz.ntmps34, List.size_toArray, List.length_cons, List.length_nil, Nat.reduceAdd, Nat.reduceSub, Array.replicate_succ, Array.replicate_zero, List.push_toArray, List.append_toArray, List.nil_append, List.cons_append]
  refine wpIn_wide.2 ?_
  go_wp2_with (go_at_call 48; refine Calls.mono (bands_made _ _ _ _ _ _ _ _) ?_; rintro e w' ⟨rfl, rfl⟩)
  have hB0 : Below w.heap.size w ((((w.alloc (.cells #[.slice none 0 0] 22)).alloc (.cells #[.slice pa a.length cpa] 22)).alloc (.cells #[.slice pb b.length cpb] 22)).alloc (.cells #[.func (.func gm) #[] #[]] 60)) := Below.al (Below.al (Below.al (Below.al1 _ _) _) _) _
  have hg := heap_pushed [.cells #[.slice none 0 0] 22, .cells #[.slice pa a.length cpa] 22, .cells #[.slice pb b.length cpb] 22, .cells #[.func (.func gm) #[] #[]] 60] w
  simp only [List.foldl_cons, List.foldl_nil] at hg
  have hsz : ((((w.alloc (.cells #[.slice none 0 0] 22)).alloc (.cells #[.slice pa a.length cpa] 22)).alloc (.cells #[.slice pb b.length cpb] 22)).alloc (.cells #[.func (.func gm) #[] #[]] 60)).heap.size = w.heap.size + 4 := by simp
  generalize ((((w.alloc (.cells #[.slice none 0 0] 22)).alloc (.cells #[.slice pa a.length cpa] 22)).alloc (.cells #[.slice pb b.length cpb] 22)).alloc (.cells #[.func (.func gm) #[] #[]] 60)) = W0 at *
  have bl : Boxed W0 w.heap.size 22 (.slice none 0 0) := (hg 0 _).2 rfl
  have b1 : Boxed W0 (w.heap.size + 1) 22 (.slice pa a.length cpa) := (hg 1 _).2 rfl
  have b2 : Boxed W0 (w.heap.size + 1 + 1) 22 (.slice pb b.length cpb) := (hg 2 _).2 rfl
  have b3 : Boxed W0 (w.heap.size + 1 + 1 + 1) 60 (.func (.func gm) #[] #[]) := (hg 3 _).2 rfl
  clear hg
  have hseq := bands_iter (w.heap.size + 1) (w.heap.size + 1 + 1) (w.heap.size + 1 + 1 + 1) gm (.slice pa a.length cpa) (.slice pb b.length cpb) a b mf W0 (fun q => q < w.heap.size ∨ q = w.heap.size + 1 ∨ q = w.heap.size + 1 + 1 ∨ q = w.heap.size + 1 + 1 + 1) hff hgm b1 b2 b3 (Ha.out.below hB0) (Hb.out.below hB0) hfa hfb hlen (fun q hq => by omega) (.inr (.inl rfl)) (.inr (.inr (.inl rfl))) (.inr (.inr (.inr rfl))) (fun q hq => .inl (hla q hq)) (fun q hq => .inl (hlb q hq))
  refine (wpIn_wide (n := 0)).1 ?_
  refine wpIn_rangeFunc_turns (gf := 66) (El := ElBand) (xs := bandsOf (stripsL mf a b)) (w0 := W0) ?hg ?eg hseq ?hs0 ?hRr ?hps
    (FormInv w) (fun _ _ _ _ => False) ?start (fun vs => { tmps := #[.slice pa a.length cpa, .slice pb b.length cpb, .func (.func gm) #[] #[], undef, undef, undef, .slice none 0 0, .pointer (some ⟨w.heap.size, 0, none⟩), vs.getD 0 undef, .slice pa a.length cpa, .slice pb b.length cpb, .func (.func gm) #[] #[], .func (.func 66) #[] #[.pointer (some ⟨w.heap.size + 1, 0, none⟩), .pointer (some ⟨w.heap.size + 1 + 1, 0, none⟩), .pointer (some ⟨w.heap.size + 1 + 1 + 1, 0, none⟩)], vs.getD 0 undef, undef, undef, undef, undef], defers := [] }) ?assign ?body ?done ?stop
  case hg => rfl
  case eg => exact enters_of Tryz.func66 (by kernel_rfl) rfl
  case hs0 => exact Nat.le_refl _
  case hRr => exact fun q hq => ⟨by omega, rfl⟩
  case hps =>
    rintro _ _ _ _ _ ⟨v, h, _⟩
    rw [h]; rfl
  case start => exact ⟨⟨_, bl, World.ownsRow_nil _ _ _ _, fun k hk => by cases hk⟩, hB0, by omega⟩
  case assign =>
    intro l vs W K hvs hK
    obtain ⟨v0, rfl⟩ := size_one hvs
    gi_wp2
    exact hK
  case stop => exact fun _ _ _ _ _ _ h => h.elim
  case done =>
    intro Tp Wq W hI htt hTp hlt hD
    rw [hsz] at htt hTp hlt hD
    have hI2 := hI.turns (T := Tp) htt (fun b hb => hTp b hb) (fun _ _ h => h)
    obtain ⟨v, bl4, own4, hvo⟩ := hI2.bl
    have hB4 := hI2.below
    have cl4 := bl4.cell
    have Hown4 := Lib.hid own4
    have HD := Lib.hid hD
    clear hI htt own4 hD bl4 hI2 bl b1 b2 b3 hseq
    rw [hsz]
    dsimp only
    go_wp2
    refine ⟨by simp, .inl ⟨_, _, rfl, run_takeDeferred HD.out, ?_⟩⟩
    refine ⟨_, results_tmp rfl _ _ _, _, rfl, ?_, ?_⟩
    · exact ownsRow_putObj Hown4.out _ HD.out rfl
    · exact hB4.trans (belowK_b (w := w) (Nat.le_refl _) W _ _ _ (by omega) HD.out rfl rfl)
  case body =>
    rintro pre x rest Tp T Wq Wp W1 W2 vs hxs hI htqp hsq ht2 hTp hT hT2 hR2 ⟨v1, rfl, hv1, hx⟩ h12 hs12 hLt hL1 hD2 hL2
    simp only [hsz] at ht2 hTp hT2 h12 hLt hL1 hD2 hL2 htqp ⊢
    have hI2 : FormInv w pre T W2 := hI.turns ht2 (fun b hb => (hTp b hb).1) (fun b hb hh => by
      rcases hT b hh with h | h
      · exact h
      · omega)
    obtain ⟨q, cap, rfl, hq1, hq2, hq⟩ := hv1
    obtain ⟨ad, rfl, hc⟩ := hq.srcR hx
    obtain ⟨r, hr⟩ := hL1
    have hne : ad.block ≠ w.heap.size + 4 + 1 := fun e => by
      have := List.length_pos_iff.2 hx
      obtain ⟨u, hu⟩ : ∃ u, (flatR x)[0]? = some u := ⟨(flatR x)[0]'(by rw [flatR_len]; omega), List.getElem?_eq_getElem _⟩
      have := hc 0 u hu
      rcases hq with ⟨h, _⟩ | ⟨b, off, h, h3, h4⟩
      · cases h
      · cases h
        rw [Addr.add_lit] at this
        dsimp only at e
        rw [e] at this
        simp [World.cell?, hr] at this
    have hc2 : ∀ j u, (flatR x)[j]? = some u → W2.cell? (ad.add j) = some u := fun j u hu => by
      have h5 := hc j u hu
      refine h12.cell h5 ?_
      rcases hq with ⟨h, _⟩ | ⟨b, off, h, h3, h4⟩
      · cases h
      · cases h
        rw [Addr.add_lit]
        exact hne
    obtain ⟨v, bl2, own2, hvo⟩ := hI2.bl
    have hbound : pre.flatten.length + x.length ≤ 4398046511104 := by
      rw [hxs] at hout
      simp at hout ⊢
      omega
    have hb2 := hI2.below
    have hvn : ∀ k, v.ownBlock = some k → k ≠ w.heap.size := fun k hk => by have := (hvo k hk).2; omega
    have hflat : (pre ++ [x]).flatten = pre.flatten ++ x := by simp
    obtain ⟨fp, hfp⟩ : ∃ fp, pre.flatten = fp := ⟨_, rfl⟩
    rw [hfp] at own2 hbound hflat
    clear hfp
    have Hbl2 := Lib.hid bl2
    have Hown2 := Lib.hid own2
    have Hvo := Lib.hid hvo
    have Hc2 := Lib.hid hc2
    have Hb2 := Lib.hid hb2
    have HT2 := Lib.hid hT2
    have Hflat := Lib.hid hflat
    have cl := bl2.cell
    have fl := bl2.frozen
    clear hI ht2 hTp hT hR2 h12 htqp bl b1 b2 b3 hseq hI2 hc hc2 hr hne hq hD2 hL2 own2 hvo bl2 hb2 hT2 hflat hxs hsq hs12
    obtain ⟨i0, hi, hz0, hz1, hz2⟩ := info_parts rc_info
    have e0 : (#[.slice (some ad) x.length cap] : Array Value).getD 0 undef = .slice (some ad) x.length cap := rfl
    rw [e0]
    clear e0
    gi_wp2_with (gi_at_builtin; refine wpListIn_append_mine _ rfl _ _ 22 rfl w.heap.size 37 i0 _ 4 32 Tryz.underlying22 hi hz0 hz1 hz2 rfl (by decide) _ _ _ rfl Hown2.out (some ad) x.length cap (flatR x) rfl (flatR_len x) ?c1 ?c2 ?c3 ?c4 ?c5 ?_)
    case c1 => exact .inr ⟨_, rfl, Hc2.out⟩
    case c2 => exact encR_one x
    case c3 => simp only [maxLen]; omega
    case c4 => omega
    case c5 => exact Hb2.out.size
    intro v' w4 hown' hgrow hpl
    have hbl4 : Boxed w4 w.heap.size 22 v := Hbl2.out.kept hgrow (fun e => hvn _ e.symm rfl)
    obtain ⟨p', c', rfl⟩ := owns_slice hown'
    have hlt4 : W2.heap.size ≤ w4.heap.size := hgrow.size
    have hto : ∀ q, (Value.slice p' (fp.length + x.length) c').ownBlock = some q → ¬ T q ∧ w.heap.size + 5 < q := fun q hq => by
      rcases hpl q hq with h | h
      · exact Hvo.out q h
      · exact ⟨fun hh => by have := (HT2.out q hh).2; omega, by omega⟩
    have htS : ∀ u, Turns (fun b => b = w.heap.size ∨ v.ownBlock = some b) W2 (w4.setCell ⟨w.heap.size, 0, none⟩ u) := fun u =>
      Turns.set (T := fun b => b = w.heap.size ∨ v.ownBlock = some b) (p := ⟨w.heap.size, 0, none⟩) (Turns.of_grown hgrow (fun i e => Or.inr e)) (Or.inl rfl) u
    have hown4 : w4.ownsRow w.heap.size 37 4 (.slice p' (fp.length + x.length) c') (pre ++ [x]).flatten.length (flatR (pre ++ [x]).flatten) := by
      rw [Hflat.out, List.length_append, show flatR (fp ++ x) = flatR fp ++ flatR x by simp [flatR]]
      exact hown'
    have FIN : ∀ W', W' = w4.setCell ⟨w.heap.size, 0, none⟩ (.slice p' (fp.length + x.length) c') → FormInv w (pre ++ [x]) T W' ∧ W2.heap.size ≤ W'.heap.size ∧ ∀ b, (b < w.heap.size ∨ b = w.heap.size + 1 ∨ b = w.heap.size + 1 + 1 ∨ b = w.heap.size + 1 + 1 + 1) ∨ T b ∨ b = w.heap.size + 4 + 1 ∨ b = w.heap.size + 4 → W'.heap[b]? = W2.heap[b]? := by
      rintro W' rfl
      have hS := htS (.slice p' (fp.length + x.length) c')
      refine ⟨⟨⟨_, hbl4.set _, (Turns.set1 _ _ _).owns hown4 (fun q hq e => by have := (hto q hq).2; omega), hto⟩, Hb2.out.trans (hS.below Hb2.out.size (fun i hi => ?_)), ?_⟩, hS.size, fun q hq => hS.block q ?_ (fun h => ?_)⟩
      · rcases hi with hi | hi
        · omega
        · have := (Hvo.out i hi).2; omega
      · have := hS.size; omega
      · rcases hq with hq | hq | hq
        · omega
        · exact (HT2.out q hq).2
        · omega
      · rcases h with h | h
        · rcases hq with hq | hq | hq
          · omega
          · have := (HT2.out q hq).1; omega
          · omega
        · have h5 := Hvo.out q h
          rcases hq with hq | hq | hq
          · omega
          · exact h5.1 hq
          · omega
    have HFIN := Lib.hid FIN
    have cl4 := hbl4.cell
    have fl4 := hbl4.frozen
    clear hbl4 hgrow hpl hown' cl fl hto htS hown4 FIN
    gi_wp2
    exact HFIN.out _ rfl

end Go.Proofs.YtajoipmchgabfaaGreat

/- region's Of, And, Or, Minus: form, of what is meant. -/
namespace Go.Proofs.YtajoipmchgabfaaGreat
open Go.RowKit Go.Shelf

attribute [local go_sem] Oper.semAt_some

/-- The list in form of the pixels that are meant. -/
def formL (mf : Bool → Bool → Bool) (a b : List Rc) : List Rc := (bandsOf (stripsL mf a b)).flatten

set_option maxHeartbeats 400000 in
theorem meant_of : Meant 35 (fun p _ => p) := by
  refine ⟨enters_of Tryz.func35 (by kernel_rfl) rfl, fun p q w => ?_⟩
  unfold Makes
  go_enter Tryz.func35, Tryz.ntmps35
  cases p <;> cases q
  all_goals
    go_wp2
    go_ret
    exact ⟨rfl, Below.refl _ _⟩

set_option maxHeartbeats 400000 in
theorem regOf_any (va : Value) (a : List Rc) (w : World) (ha : Row encR 4 w va a) (hfa : ∀ r ∈ a, Fit r) (hlen : a.length ≤ 67108864) (hout : (formL (fun p _ => p) a []).length ≤ 4398046511104) :
    Calls Tryz.prog 22 #[va] w fun e w' => ∃ u, e = .returned u ∧ w'.ownsRow w.heap.size 37 4 u (formL (fun p _ => p) a []).length (flatR (formL (fun p _ => p) a [])) ∧ Below w.heap.size w w' := by
  have hmf : ∀ (fn : Fn) (first cap : Array Value) (w : World), (Instr.makeFunc fn first cap).run Tryz.prog w = .ok (.func fn first cap) w := fun _ _ _ _ => rfl
  go_enter Tryz.func22, Tryz.ntmps22
  go_wp2_with (go_at_call 34; refine Calls.mono (form_any va (.slice none 0 0) a [] _ _ w rfl meant_of ha ⟨none, 0, rfl, Nat.le_refl _, by simp [maxLen], .inl ⟨rfl, rfl⟩⟩ hfa (fun r hr => by cases hr) (by simpa using hlen) hout) ?_; rintro e w' ⟨u, rfl, own, hbw⟩)
  have Hown := Lib.hid own
  clear own
  go_wp2
  go_ret
  exact ⟨_, rfl, Hown.out, hbw⟩

end Go.Proofs.YtajoipmchgabfaaGreat
