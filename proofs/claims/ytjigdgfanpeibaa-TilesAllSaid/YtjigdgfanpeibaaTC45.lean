/- region's Same: whether there is no band of what one has alone. -/
import Derived.Test.YtjigdgfanpeibaaTC21
namespace Go.Proofs.Ytjigdgfanpeibaa
open Go.RowKit Go.Shelf

attribute [local go_sem] Oper.semAt_some

/-- A bool result, read out of its box. -/
theorem results_box {fn : Func} {p : Tmp} {tmps : Array Value} {w : World} {B : Nat} {r : Bool} (h : fn.results = #[.cell p 4]) (hp : tmps.getD p undef = .pointer (some ⟨B, 0, none⟩)) (hl : w.cell? ⟨B, 0, none⟩ = some (.bool r)) :
    (results fn tmps).run Try.prog w = .ok (.bool r) w := by
  have hp' : tmps[p]?.getD undef = .pointer (some ⟨B, 0, none⟩) := by simpa using hp
  simp [results, h, hp', go_sem, hl]

/-- What Same's loop keeps: the answer's box. -/
structure SameInv (w : World) (r : Bool) (W : World) : Prop where
  bl : Boxed W w.heap.size 4 (.bool r)
  below : Below w.heap.size w W
  big : w.heap.size + 4 ≤ W.heap.size

theorem SameInv.turns {w : World} {r : Bool} {Tp : Nat → Prop} {W W2 : World} (h : SameInv w r W) (ht : Turns (fun b => Tp b ∨ b = w.heap.size + 4 + 1 ∨ b = w.heap.size + 4) W W2) (hTp : ∀ b, Tp b → w.heap.size + 5 < b) : SameInv w r W2 := by
  obtain ⟨h1, hb, hbig⟩ := h
  refine ⟨ht.boxed h1 (fun h => ?_), ?_, Nat.le_trans hbig ht.size⟩
  · rcases h with h | h
    · have := hTp _ h; omega
    · omega
  · exact hb.trans (ht.below (by omega) (fun i hi => by
      rcases hi with hi | hi
      · have := hTp _ hi; omega
      · omega))

set_option maxRecDepth 100000 in
set_option maxHeartbeats 2000000 in
theorem regSame_any (va vb : Value) (a b : List Rc) (w : World) (ha : Row encR 4 w va a) (hb : Row encR 4 w vb b) (hfa : ∀ r ∈ a, Fit r) (hfb : ∀ r ∈ b, Fit r) (hlen : a.length + b.length ≤ 67108864) :
    Makes Try.prog 34 #[va, vb] w (.bool (decide (bandsOf (stripsL (fun p q => p != q) a b) = []))) := by
  unfold Makes
  have Ha := Lib.hid ha
  have Hb := Lib.hid hb
  obtain ⟨pa, cpa, rfl, -, -, hpa⟩ := ha
  obtain ⟨pb, cpb, rfl, -, -, hpb⟩ := hb
  have hla : ∀ q, (Value.slice pa a.length cpa).ownBlock = some q → q < w.heap.size := fun q hq => by
    rcases hpa with ⟨rfl, _⟩ | ⟨b, off, rfl, h3, _⟩
    · cases hq
    · cases hq; exact h3
  have hlb : ∀ q, (Value.slice pb b.length cpb).ownBlock = some q → q < w.heap.size := fun q hq => by
    rcases hpb with ⟨rfl, _⟩ | ⟨b, off, rfl, h3, _⟩
    · cases hq
    · cases hq; exact h3
  clear hpa hpb
  refine (callsIn_wide (n := 0)).1 ?_
  refine callsIn_of_wp_marks Try.func34 rfl trivial ?_ rfl
  simp only [Try.ntmps34, List.size_toArray, List.length_cons, List.length_nil, Nat.reduceAdd, Nat.reduceSub, Array.replicate_succ, Array.replicate_zero, List.push_toArray, List.append_toArray, List.nil_append, List.cons_append]
  refine wpIn_wide.2 ?_
  go_wp2_with (go_at_call 65; refine Calls.mono (bands_made _ _ _ _ _ _ _ _) ?_; rintro e w' ⟨rfl, rfl⟩)
  have hB0 : Below w.heap.size w ((((w.alloc (.cells #[.bool false] 4)).alloc (.cells #[.slice pa a.length cpa] 57)).alloc (.cells #[.slice pb b.length cpb] 57)).alloc (.cells #[.func (.func 66) #[] #[]] 106)) := Below.al (Below.al (Below.al (Below.al1 _ _) _) _) _
  have hg := heap_pushed [.cells #[.bool false] 4, .cells #[.slice pa a.length cpa] 57, .cells #[.slice pb b.length cpb] 57, .cells #[.func (.func 66) #[] #[]] 106] w
  simp only [List.foldl_cons, List.foldl_nil] at hg
  have hsz : ((((w.alloc (.cells #[.bool false] 4)).alloc (.cells #[.slice pa a.length cpa] 57)).alloc (.cells #[.slice pb b.length cpb] 57)).alloc (.cells #[.func (.func 66) #[] #[]] 106)).heap.size = w.heap.size + 4 := by simp
  generalize ((((w.alloc (.cells #[.bool false] 4)).alloc (.cells #[.slice pa a.length cpa] 57)).alloc (.cells #[.slice pb b.length cpb] 57)).alloc (.cells #[.func (.func 66) #[] #[]] 106)) = W0 at *
  have bl : Boxed W0 w.heap.size 4 (.bool false) := (hg 0 _).2 rfl
  have b1 : Boxed W0 (w.heap.size + 1) 57 (.slice pa a.length cpa) := (hg 1 _).2 rfl
  have b2 : Boxed W0 (w.heap.size + 1 + 1) 57 (.slice pb b.length cpb) := (hg 2 _).2 rfl
  have b3 : Boxed W0 (w.heap.size + 1 + 1 + 1) 106 (.func (.func 66) #[] #[]) := (hg 3 _).2 rfl
  clear hg
  have hseq := bands_iter (w.heap.size + 1) (w.heap.size + 1 + 1) (w.heap.size + 1 + 1 + 1) _ (.slice pa a.length cpa) (.slice pb b.length cpb) a b _ W0 (fun q => q < w.heap.size ∨ q = w.heap.size + 1 ∨ q = w.heap.size + 1 + 1 ∨ q = w.heap.size + 1 + 1 + 1) rfl meant_same b1 b2 b3 (Ha.out.below hB0) (Hb.out.below hB0) hfa hfb hlen (fun q hq => by omega) (.inr (.inl rfl)) (.inr (.inr (.inl rfl))) (.inr (.inr (.inr rfl))) (fun q hq => .inl (hla q hq)) (fun q hq => .inl (hlb q hq))
  refine (wpIn_wide (n := 0)).1 ?_
  refine wpIn_rangeFunc_turns (gf := 92) (El := ElBand) (xs := bandsOf (stripsL (fun p q => p != q) a b)) (w0 := W0) ?hg ?eg hseq ?hs0 ?hRr ?hps
    (fun pre _ W => pre = [] ∧ SameInv w false W) (fun c pre _ W => c = .ret ∧ pre ≠ [] ∧ SameInv w false W) ?start (fun vs => { tmps := #[.slice pa a.length cpa, .slice pb b.length cpb, undef, undef, .pointer (some ⟨w.heap.size, 0, none⟩), .slice pa a.length cpa, .slice pb b.length cpb, .func (.func 92) #[] #[.pointer (some ⟨w.heap.size + 1, 0, none⟩), .pointer (some ⟨w.heap.size + 1 + 1, 0, none⟩), .pointer (some ⟨w.heap.size + 1 + 1 + 1, 0, none⟩)], vs.getD 0 undef], defers := [] }) ?assign ?body ?done ?stop
  case hg => rfl
  case eg => exact enters_of Try.func92 (by kernel_rfl) rfl
  case hs0 => exact Nat.le_refl _
  case hRr => exact fun q hq => ⟨by omega, rfl⟩
  case hps =>
    rintro _ _ _ _ _ ⟨v, h, _⟩
    rw [h]; rfl
  case start => exact ⟨rfl, bl, hB0, by omega⟩
  case assign =>
    intro l vs W K hvs hK
    obtain ⟨v0, rfl⟩ := size_one hvs
    gi_wp2
    first
      | exact hK
      | simpa using hK
      | simpa [Array.zip, Array.zipWith] using hK
  case body =>
    rintro pre x rest Tp T Wq Wp W1 W2 vs hxs ⟨rfl, hI⟩ htqp hsq ht2 hTp hT hT2 hR2 - h12 hs12 hLt hL1 hD2 hL2
    simp only [hsz] at ht2 hTp hT2 h12 hLt hL1 hD2 hL2 htqp ⊢
    have hI2 : SameInv w false W2 := hI.turns ht2 (fun b hb => (hTp b hb).1)
    have hS := Turns.set1 w.heap.size W2 (.bool false)
    have FIN : ∀ W', W' = W2.setCell ⟨w.heap.size, 0, none⟩ (.bool false) → SameInv w false W' ∧ W2.heap.size ≤ W'.heap.size ∧ ∀ b, (b < w.heap.size ∨ b = w.heap.size + 1 ∨ b = w.heap.size + 1 + 1 ∨ b = w.heap.size + 1 + 1 + 1) ∨ T b ∨ b = w.heap.size + 4 + 1 ∨ b = w.heap.size + 4 → W'.heap[b]? = W2.heap[b]? := by
      rintro W' rfl
      refine ⟨⟨hI2.bl.set _, hI2.below.trans (hS.below (by omega) (fun i hi => by omega)), by have := hS.size; omega⟩, hS.size, fun q hq => hS.block q ?_ (fun h => ?_)⟩
      · rcases hq with hq | hq | hq
        · omega
        · exact (hT2 q hq).2
        · omega
      · rcases hq with hq | hq | hq
        · omega
        · have := (hT2 q hq).1; omega
        · omega
    have HFIN := Lib.hid FIN
    have cl := hI2.bl.cell
    have fl := hI2.bl.frozen
    clear hI ht2 hTp hT hR2 h12 htqp bl b1 b2 b3 hseq hI2 hD2 hL2 hT2 hxs hsq hs12 hL1 FIN hS
    gi_wp2
    exact ⟨⟨rfl, by simp, (HFIN.out _ rfl).1⟩, (HFIN.out _ rfl).2⟩
  case stop =>
    rintro c pre Tp Wq W hpre ⟨rfl, hne, hI⟩ htt hTp hlt hD
    rw [hsz] at htt hTp hlt hD
    have hI2 := hI.turns htt (fun b hb => hTp b hb)
    have hx : decide (bandsOf (stripsL (fun p q => p != q) a b) = []) = false := by
      simp only [decide_eq_false_iff_not]
      intro e
      rw [e] at hpre
      exact hne (List.prefix_nil.1 hpre)
    rw [hsz]
    have Hx := Lib.hid hx
    have HD := Lib.hid hD
    have HI2 := Lib.hid hI2
    clear hI htt hD hI2 bl b1 b2 b3 hseq hpre hx
    dsimp only
    gi_wp2
    refine ⟨by simp, .inl ⟨_, _, rfl, run_takeDeferred HD.out, ?_⟩⟩
    refine ⟨_, results_box (B := w.heap.size) (r := false) rfl rfl ?_, by rw [Hx.out], ?_⟩
    · exact ((Turns.put (T := fun q => q = w.heap.size + 4) _ _ _ rfl).boxed HI2.out.bl (by omega)).cell
    · exact HI2.out.below.trans (belowK_b (w := w) (Nat.le_refl _) W _ _ _ (by omega) HD.out rfl rfl)
  case done =>
    rintro Tp Wq W ⟨hxs, hI⟩ htt hTp hlt hD
    rw [hsz] at htt hTp hlt hD
    have hI2 := hI.turns htt (fun b hb => hTp b hb)
    have hx : decide (bandsOf (stripsL (fun p q => p != q) a b) = []) = true := by simp [hxs]
    rw [hsz]
    have HD := Lib.hid hD
    have HI2 := Lib.hid hI2
    have Hx := Lib.hid hx
    have cl := hI2.bl.cell
    have fl := hI2.bl.frozen
    clear hI htt hD hI2 bl b1 b2 b3 hseq hxs hx
    dsimp only
    go_wp2
    have hS := Turns.set1 w.heap.size W (.bool true)
    have HD2 : (W.setCell ⟨w.heap.size, 0, none⟩ (.bool true)).heap[w.heap.size + 4]? = some (.deferred (some [])) := (hS.block _ (by omega) (by omega)).trans HD.out
    refine ⟨by simp, .inl ⟨_, _, rfl, run_takeDeferred HD2, ?_⟩⟩
    refine ⟨_, results_box (B := w.heap.size) (r := true) rfl rfl ?_, by rw [Hx.out], ?_⟩
    · exact ((Turns.put (T := fun q => q = w.heap.size + 4) _ _ _ rfl).boxed (HI2.out.bl.set _) (by omega)).cell
    · exact (HI2.out.below.trans (hS.below (by omega) (fun i hi => by omega))).trans (belowK_b (w := w) (Nat.le_refl _) _ _ _ _ (by omega) HD2 rfl rfl)

end Go.Proofs.Ytjigdgfanpeibaa
