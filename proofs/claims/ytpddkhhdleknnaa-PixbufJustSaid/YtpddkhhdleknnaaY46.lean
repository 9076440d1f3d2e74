/- Several texts in one, each with its own head. -/
import Derived.Test.YtpddkhhdleknnaaY45
import Derived.Test.YtpddkhhdleknnaaY24
import Derived.Test.YtpddkhhdleknnaaY38
/- region's isBand and follows; the statements' own same. -/
namespace Go.Proofs.Ytpddkhhdleknnaa
open Go.RowKit

theorem isBandB_iff {xs : List Rc} : isBandB xs = true ↔ ∀ j (h : j + 1 < xs.length), xs[j + 1].b = xs[0].b ∧ xs[j].x + xs[j].a < xs[j + 1].x := by
  cases xs with
  | nil => simp [isBandB]
  | cons r l =>
    simp only [isBandB, Bool.and_eq_true, List.all_eq_true, decide_eq_true_eq, beq_iff_eq]
    constructor
    · rintro ⟨h1, h2⟩ j hj
      refine ⟨by simpa using h1 _ (List.getElem_mem hj), ?_⟩
      have hj' : j < l.length := by simpa using hj
      have hz : j < ((r :: l).zip l).length := by simp; omega
      have := h2 _ (List.getElem_mem hz)
      rw [List.getElem_zip] at this
      simpa using this
    · intro h
      refine ⟨fun s hs => ?_, fun p hp => ?_⟩
      · obtain ⟨i, hi, rfl⟩ := List.getElem_of_mem hs
        cases i with
        | zero => rfl
        | succ i => simpa using (h i hi).1
      · obtain ⟨i, hi, rfl⟩ := List.getElem_of_mem hp
        rw [List.getElem_zip]
        have hi' : i < l.length := by simp at hi; omega
        exact (h i (by simpa using hi')).2

set_option maxRecDepth 100000 in
set_option maxHeartbeats 2000000 in
theorem isBand_any (v : Value) (xs : List Rc) (w : World) (hv : Row encR 4 w v xs) (hbd : ∀ r ∈ xs, (-4294967296 ≤ r.x ∧ r.x ≤ 4294967296) ∧ (-4294967296 ≤ r.a ∧ r.a ≤ 4294967296)) :
    Makes Try.prog 67 #[v] w (.bool (isBandB xs)) := by
  unfold Makes
  have hn := hv.len
  obtain ⟨p, cap, rfl, -, -, hp⟩ := hv
  have Hbd := Lib.hid hbd
  clear hbd
  go_enter Try.func67, Try.ntmps67
  go_wp2
  go_loopw [3] (fun i wr => ∃ (i' : Int) (j : Nat), i = .int .i64 i' ∧ i' = (j : Int) + 1 ∧ j ≤ xs.length ∧ Below w.heap.size w wr ∧ Hid (∀ q (h : q + 1 < xs.length), q < j → xs[q + 1].b = xs[0].b ∧ xs[q].x + xs[q].a < xs[q + 1].x)) (fun i _ => xs.length + 1 - (intOf i).toNat)
  case atStart => exact ⟨1, 0, rfl, rfl, by omega, Below.refl _ _, Lib.hid (fun q h h' => by omega)⟩
  case round =>
    obtain ⟨i', j, rfl, hij, hjl, hb, He⟩ := hrel
    by_cases hlt : j + 1 < xs.length
    · have hd1 : decide (i' < (xs.length : Int)) = true := by simp; omega
      obtain ⟨b, off, rfl, hB, hc⟩ := (hp.below hb).rc hlt
      obtain ⟨a0, a1, a2, a3⟩ := hc (j + 1) hlt
      obtain ⟨b0, b1, b2, b3⟩ := hc j (by omega)
      have hc0 := hc 0 (by omega)
      simp only [Nat.zero_mul, Nat.add_zero] at hc0
      obtain ⟨c0, c1, c2, c3⟩ := hc0
      have e1 := Hbd.out xs[j] (List.getElem_mem (by omega))
      have Hok := Lib.hid (show ∀ (h : j + 1 < xs.length), (xs[j + 1].b = xs[0].b ∧ xs[j].x + xs[j].a < xs[j + 1].x) ↔ (xs[j + 1].b = xs[0].b ∧ xs[j].x + xs[j].a < xs[j + 1].x) from fun _ => Iff.rfl)
      have Hno := Lib.hid (show ¬ (xs[j + 1].b = xs[0].b ∧ xs[j].x + xs[j].a < xs[j + 1].x) → isBandB xs = false from fun h => by
        cases hh : isBandB xs
        · rfl
        · exact absurd (isBandB_iff.1 hh j hlt) h)
      have Hyes := Lib.hid (show (xs[j + 1].b = xs[0].b ∧ xs[j].x + xs[j].a < xs[j + 1].x) → ∀ q (h : q + 1 < xs.length), q < j + 1 → xs[q + 1].b = xs[0].b ∧ xs[q].x + xs[q].a < xs[q + 1].x from fun h q hq hq2 => by
        by_cases hqj : q = j
        · subst hqj; exact h
        · exact He.out q hq (by omega))
      clear hc Hok
      generalize xs[j + 1] = rk at *
      generalize xs[j] = rj at *
      generalize xs[0] = r0 at *
      have hi0 : (0 : Int) ≤ i' := by omega
      have hi1 : i'.toNat = j + 1 := by omega
      have hw1 : IntKind.i64.wrap (i' - 1) = i' - 1 := IntWalk.i64_in _ (by omega)
      have hj0 : (0 : Int) ≤ i' - 1 := by omega
      have hj1 : (i' - 1).toNat = j := by omega
      have hj2 : j < xs.length := by omega
      have h0l : 0 < xs.length := by omega
      have hw2 : IntKind.i64.wrap (rj.x + rj.a) = rj.x + rj.a := IntWalk.i64_in _ (by omega)
      by_cases hh : rk.b = r0.b
      · have hh' : ((rk.b : Int) != r0.b) = false := by simp [hh]
        by_cases hx : rj.x + rj.a < rk.x
        · have hx' : decide (rk.x ≤ rj.x + rj.a) = false := by simp; omega
          have HY := Lib.hid (Hyes.out ⟨hh, hx⟩)
          clear hh hx Hno Hyes e1
          go_wp2
          go_quiet (fail)
          go_wp2
          go_roundw
          case rel => exact ⟨i' + 1, j + 1, by go_num, by omega, by omega, Below.drewN' hb _, HY⟩
          case measure => simp [intOf]; omega
        · have hx' : decide (rk.x ≤ rj.x + rj.a) = true := by simp; omega
          have HN := Lib.hid (Hno.out (fun h => hx h.2))
          clear hh hx Hno Hyes e1
          go_wp2
          go_quiet (fail)
          go_wp2
          go_ret
          exact ⟨ret_bool HN.out.symm, Below.drewN' hb _⟩
      · have hh' : ((rk.b : Int) != r0.b) = true := by simp [hh]
        have HN := Lib.hid (Hno.out (fun h => hh h.1))
        clear hh Hno Hyes e1
        go_wp2
        go_quiet (fail)
        go_wp2
        go_ret
        exact ⟨ret_bool HN.out.symm, Below.drewN' hb _⟩
    · have hd1 : decide (i' < (xs.length : Int)) = false := by simp; omega
      have HT := Lib.hid (show isBandB xs = true from isBandB_iff.2 (fun q hq => He.out q hq (by omega)))
      go_wp2
      go_ret
      exact ⟨ret_bool HT.out.symm, hb⟩

theorem followsB_cons {a b : List Rc} (ha : 0 < a.length) (hb : 0 < b.length) : followsB a b = (decide (a[0].y + a[0].b ≤ b[0].y) && !goesOnB a b) := by
  cases a with
  | nil => simp at ha
  | cons r l =>
    cases b with
    | nil => simp at hb
    | cons s m => rfl

set_option maxRecDepth 100000 in
set_option maxHeartbeats 2000000 in
theorem follows_any (va vb : Value) (a b : List Rc) (w : World) (ha : Row encR 4 w va a) (hb : Row encR 4 w vb b) (hlb0 : 0 < b.length) (hbd : ∀ r ∈ a, (-4294967296 ≤ r.y ∧ r.y ≤ 4294967296) ∧ (-4294967296 ≤ r.b ∧ r.b ≤ 4294967296)) :
    Makes Try.prog 68 #[va, vb] w (.bool (followsB a b)) := by
  unfold Makes
  have hla := ha.len
  have hlb := hb.len
  have Ha := Lib.hid ha
  have Hb := Lib.hid hb
  have Hbd := Lib.hid hbd
  obtain ⟨pa, ca, rfl, hca, hma, hpa⟩ := ha
  obtain ⟨pb, cb, rfl, hcb, hmb, hpb⟩ := hb
  by_cases h00 : a.length = 0
  · have h0 : ((a.length : Int) == 0) = true := by simp [h00]
    have Hf := Lib.hid (show followsB a b = true by rw [List.eq_nil_of_length_eq_zero h00]; rfl)
    clear h00 hbd hpa
    go_enter Try.func68, Try.ntmps68
    go_wp2
    go_ret
    exact ⟨ret_bool Hf.out.symm, Below.refl _ _⟩
  · have hz : ((a.length : Int) == 0) = false := by simpa using h00
    have hla0 : 0 < a.length := by omega
    clear h00
    obtain ⟨ba, oa, rfl, hBa, hc⟩ := hpa.rc hla0
    obtain ⟨bb, ob, rfl, hBb, hd⟩ := hpb.rc hlb0
    have hc0 := hc 0 hla0
    have hd0 := hd 0 hlb0
    have hb0 := hbd a[0] (List.getElem_mem hla0)
    have Hge := Lib.hid (followsB_cons hla0 hlb0)
    simp only [Nat.zero_mul, Nat.add_zero] at hc0 hd0
    generalize a[0] = r at *
    generalize b[0] = s at *
    obtain ⟨c0, c1, c2, c3⟩ := hc0
    obtain ⟨d0, d1, d2, d3⟩ := hd0
    have hw : IntKind.i64.wrap (r.y + r.b) = r.y + r.b := IntWalk.i64_in _ (by omega)
    clear hbd hc hd hpa hpb
    by_cases hy : r.y + r.b ≤ s.y
    · have hy' : decide (r.y + r.b ≤ s.y) = true := by simpa using hy
      have Hy := Lib.hid hy'
      clear hy hb0
      go_enter Try.func68, Try.ntmps68
      go_wp2
      go_quiet (fail)
      go_wp2_with fail
      refine Calls.mono (goesOn_any _ _ a b _ (Ha.out.below (Below.drewN' (Below.refl _ _) _)) (Hb.out.below (Below.drewN' (Below.refl _ _) _)) Hbd.out) ?_
      rintro e w1 ⟨rfl, hb1⟩
      go_wp2
      go_ret
      exact ⟨ret_bool (by rw [Hge.out, Hy.out]; rfl), Below.thn (Below.drewN' (Below.refl _ _) _) hb1⟩
    · have hy' : decide (r.y + r.b ≤ s.y) = false := by simpa using hy
      have Hy := Lib.hid hy'
      clear hy hb0
      go_enter Try.func68, Try.ntmps68
      go_wp2
      go_quiet (fail)
      go_wp2
      go_ret
      exact ⟨ret_bool (by rw [Hge.out, Hy.out]; rfl), Below.drewN' (Below.refl _ _) _⟩

end Go.Proofs.Ytpddkhhdleknnaa

/- region's Same: whether there is no band of what one has alone. -/
namespace Go.Proofs.Ytpddkhhdleknnaa
open Go.RowKit Go.Shelf

attribute [local go_sem] Oper.semAt_some

/-- A bool result, read out of its box. -/
theorem results_box {fn : Func} {p : Tmp} {tmps : Array Value} {w : World} {B : Nat} {r : Bool} (h : fn.results = #[.cell p 4]) (hp : tmps.getD p undef = .pointer (some ⟨B, 0, none⟩)) (hl : w.cell? ⟨B, 0, none⟩ = some (.bool r)) :
    (results fn tmps).run Try.prog w = .ok (.bool r) w := by
  have hp' : tmps[p]?.getD undef = .pointer (some ⟨B, 0, none⟩) := by simpa using hp
  simp [results, h, hp', go_sem, hl]

/-- What Same's loop keeps: the answer's box. -/
structure SameInv (w : World) (r : Bool) (W : World) : Prop where
  bl : Boxed W w.heap.size 4 (.bool r)
  below : Below w.heap.size w W
  big : w.heap.size + 4 ≤ W.heap.size

theorem SameInv.turns {w : World} {r : Bool} {Tp : Nat → Prop} {W W2 : World} (h : SameInv w r W) (ht : Turns (fun b => Tp b ∨ b = w.heap.size + 4 + 1 ∨ b = w.heap.size + 4) W W2) (hTp : ∀ b, Tp b → w.heap.size + 5 < b) : SameInv w r W2 := by
  obtain ⟨h1, hb, hbig⟩ := h
  refine ⟨ht.boxed h1 (fun h => ?_), ?_, Nat.le_trans hbig ht.size⟩
  · rcases h with h | h
    · have := hTp _ h; omega
    · omega
  · exact hb.trans (ht.below (by omega) (fun i hi => by
      rcases hi with hi | hi
      · have := hTp _ hi; omega
      · omega))

set_option maxRecDepth 100000 in
set_option maxHeartbeats 2000000 in
theorem regSame_any (va vb : Value) (a b : List Rc) (w : World) (ha : Row encR 4 w va a) (hb : Row encR 4 w vb b) (hfa : ∀ r ∈ a, Fit r) (hfb : ∀ r ∈ b, Fit r) (hlen : a.length + b.length ≤ 67108864) :
    Makes Try.prog 25 #[va, vb] w (.bool (decide (bandsOf (stripsL (fun p q => p != q) a b) = []))) := by
  unfold Makes
  have Ha := Lib.hid ha
  have Hb := Lib.hid hb
  obtain ⟨pa, cpa, rfl, -, -, hpa⟩ := ha
  obtain ⟨pb, cpb, rfl, -, -, hpb⟩ := hb
  have hla : ∀ q, (Value.slice pa a.length cpa).ownBlock = some q → q < w.heap.size := fun q hq => by
    rcases hpa with ⟨rfl, _⟩ | ⟨b, off, rfl, h3, _⟩
    · cases hq
    · cases hq; exact h3
  have hlb : ∀ q, (Value.slice pb b.length cpb).ownBlock = some q → q < w.heap.size := fun q hq => by
    rcases hpb with ⟨rfl, _⟩ | ⟨b, off, rfl, h3, _⟩
    · cases hq
    · cases hq; exact h3
  clear hpa hpb
  refine (callsIn_wide (n := 0)).1 ?_
  refine callsIn_of_wp_marks Try.func25 rfl trivial ?_ rfl
  simp only [Try.ntmps25, List.size_toArray, List.length_cons, List.length_nil, Nat.reduceAdd, Nat.reduceSub, Array.replicate_succ, Array.replicate_zero, List.push_toArray, List.append_toArray, List.nil_append, List.cons_append]
  refine wpIn_wide.2 ?_
  go_wp2_with (go_at_call 71; refine Calls.mono (bands_made _ _ _ _ _ _ _ _) ?_; rintro e w' ⟨rfl, rfl⟩)
  have hB0 : Below w.heap.size w ((((w.alloc (.cells #[.bool false] 4)).alloc (.cells #[.slice pa a.length cpa] 22)).alloc (.cells #[.slice pb b.length cpb] 22)).alloc (.cells #[.func (.func 78) #[] #[]] 81)) := Below.al (Below.al (Below.al (Below.al1 _ _) _) _) _
  have hg := heap_pushed [.cells #[.bool false] 4, .cells #[.slice pa a.length cpa] 22, .cells #[.slice pb b.length cpb] 22, .cells #[.func (.func 78) #[] #[]] 81] w
  simp only [List.foldl_cons, List.foldl_nil] at hg
  have hsz : ((((w.alloc (.cells #[.bool false] 4)).alloc (.cells #[.slice pa a.length cpa] 22)).alloc (.cells #[.slice pb b.length cpb] 22)).alloc (.cells #[.func (.func 78) #[] #[]] 81)).heap.size = w.heap.size + 4 := by simp
  generalize ((((w.alloc (.cells #[.bool false] 4)).alloc (.cells #[.slice pa a.length cpa] 22)).alloc (.cells #[.slice pb b.length cpb] 22)).alloc (.cells #[.func (.func 78) #[] #[]] 81)) = W0 at *
  have bl : Boxed W0 w.heap.size 4 (.bool false) := (hg 0 _).2 rfl
  have b1 : Boxed W0 (w.heap.size + 1) 22 (.slice pa a.length cpa) := (hg 1 _).2 rfl
  have b2 : Boxed W0 (w.heap.size + 1 + 1) 22 (.slice pb b.length cpb) := (hg 2 _).2 rfl
  have b3 : Boxed W0 (w.heap.size + 1 + 1 + 1) 81 (.func (.func 78) #[] #[]) := (hg 3 _).2 rfl
  clear hg
  have hseq := bands_iter (w.heap.size + 1) (w.heap.size + 1 + 1) (w.heap.size + 1 + 1 + 1) _ (.slice pa a.length cpa) (.slice pb b.length cpb) a b _ W0 (fun q => q < w.heap.size ∨ q = w.heap.size + 1 ∨ q = w.heap.size + 1 + 1 ∨ q = w.heap.size + 1 + 1 + 1) rfl meant_same b1 b2 b3 (Ha.out.below hB0) (Hb.out.below hB0) hfa hfb hlen (fun q hq => by omega) (.inr (.inl rfl)) (.inr (.inr (.inl rfl))) (.inr (.inr (.inr rfl))) (fun q hq => .inl (hla q hq)) (fun q hq => .inl (hlb q hq))
  refine (wpIn_wide (n := 0)).1 ?_
  refine wpIn_rangeFunc_turns (gf := 108) (El := ElBand) (xs := bandsOf (stripsL (fun p q => p != q) a b)) (w0 := W0) ?hg ?eg hseq ?hs0 ?hRr ?hps
    (fun pre _ W => pre = [] ∧ SameInv w false W) (fun c pre _ W => c = .ret ∧ pre ≠ [] ∧ SameInv w false W) ?start (fun vs => { tmps := #[.slice pa a.length cpa, .slice pb b.length cpb, undef, undef, .pointer (some ⟨w.heap.size, 0, none⟩), .slice pa a.length cpa, .slice pb b.length cpb, .func (.func 108) #[] #[.pointer (some ⟨w.heap.size + 1, 0, none⟩), .pointer (some ⟨w.heap.size + 1 + 1, 0, none⟩), .pointer (some ⟨w.heap.size + 1 + 1 + 1, 0, none⟩)], vs.getD 0 undef], defers := [] }) ?assign ?body ?done ?stop
  case hg => rfl
  case eg => exact enters_of Try.func108 (by kernel_rfl) rfl
  case hs0 => exact Nat.le_refl _
  case hRr => exact fun q hq => ⟨by omega, rfl⟩
  case hps =>
    rintro _ _ _ _ _ ⟨v, h, _⟩
    rw [h]; rfl
  case start => exact ⟨rfl, bl, hB0, by omega⟩
  case assign =>
    intro l vs W K hvs hK
    obtain ⟨v0, rfl⟩ := size_one hvs
    gi_wp2
    first
      | exact hK
      | simpa using hK
      | simpa [Array.zip, Array.zipWith] using hK
  case body =>
    rintro pre x rest Tp T Wq Wp W1 W2 vs hxs ⟨rfl, hI⟩ htqp hsq ht2 hTp hT hT2 hR2 - h12 hs12 hLt hL1 hD2 hL2
    simp only [hsz] at ht2 hTp hT2 h12 hLt hL1 hD2 hL2 htqp ⊢
    have hI2 : SameInv w false W2 := hI.turns ht2 (fun b hb => (hTp b hb).1)
    have hS := Turns.set1 w.heap.size W2 (.bool false)
    have FIN : ∀ W', W' = W2.setCell ⟨w.heap.size, 0, none⟩ (.bool false) → SameInv w false W' ∧ W2.heap.size ≤ W'.heap.size ∧ ∀ b, (b < w.heap.size ∨ b = w.heap.size + 1 ∨ b = w.heap.size + 1 + 1 ∨ b = w.heap.size + 1 + 1 + 1) ∨ T b ∨ b = w.heap.size + 4 + 1 ∨ b = w.heap.size + 4 → W'.heap[b]? = W2.heap[b]? := by
      rintro W' rfl
      refine ⟨⟨hI2.bl.set _, hI2.below.trans (hS.below (by omega) (fun i hi => by omega)), by have := hS.size; omega⟩, hS.size, fun q hq => hS.block q ?_ (fun h => ?_)⟩
      · rcases hq with hq | hq | hq
        · omega
        · exact (hT2 q hq).2
        · omega
      · rcases hq with hq | hq | hq
        · omega
        · have := (hT2 q hq).1; omega
        · omega
    have HFIN := Lib.hid FIN
    have cl := hI2.bl.cell
    have fl := hI2.bl.frozen
    clear hI ht2 hTp hT hR2 h12 htqp bl b1 b2 b3 hseq hI2 hD2 hL2 hT2 hxs hsq hs12 hL1 FIN hS
    gi_wp2
    exact ⟨⟨rfl, by simp, (HFIN.out _ rfl).1⟩, (HFIN.out _ rfl).2⟩
  case stop =>
    rintro c pre Tp Wq W hpre ⟨rfl, hne, hI⟩ htt hTp hlt hD
    rw [hsz] at htt hTp hlt hD
    have hI2 := hI.turns htt (fun b hb => hTp b hb)
    have hx : decide (bandsOf (stripsL (fun p q => p != q) a b) = []) = false := by
      simp only [decide_eq_false_iff_not]
      intro e
      rw [e] at hpre
      exact hne (List.prefix_nil.1 hpre)
    rw [hsz]
    have Hx := Lib.hid hx
    have HD := Lib.hid hD
    have HI2 := Lib.hid hI2
    clear hI htt hD hI2 bl b1 b2 b3 hseq hpre hx
    dsimp only
    gi_wp2
    refine ⟨by simp, .inl ⟨_, _, rfl, run_takeDeferred HD.out, ?_⟩⟩
    refine ⟨_, results_box (B := w.heap.size) (r := false) rfl rfl ?_, by rw [Hx.out], ?_⟩
    · exact ((Turns.put (T := fun q => q = w.heap.size + 4) _ _ _ rfl).boxed HI2.out.bl (by omega)).cell
    · exact HI2.out.below.trans (belowK_b (w := w) (Nat.le_refl _) W _ _ _ (by omega) HD.out rfl rfl)
  case done =>
    rintro Tp Wq W ⟨hxs, hI⟩ htt hTp hlt hD
    rw [hsz] at htt hTp hlt hD
    have hI2 := hI.turns htt (fun b hb => hTp b hb)
    have hx : decide (bandsOf (stripsL (fun p q => p != q) a b) = []) = true := by simp [hxs]
    rw [hsz]
    have HD := Lib.hid hD
    have HI2 := Lib.hid hI2
    have Hx := Lib.hid hx
    have cl := hI2.bl.cell
    have fl := hI2.bl.frozen
    clear hI htt hD hI2 bl b1 b2 b3 hseq hxs hx
    dsimp only
    go_wp2
    have hS := Turns.set1 w.heap.size W (.bool true)
    have HD2 : (W.setCell ⟨w.heap.size, 0, none⟩ (.bool true)).heap[w.heap.size + 4]? = some (.deferred (some [])) := (hS.block _ (by omega) (by omega)).trans HD.out
    refine ⟨by simp, .inl ⟨_, _, rfl, run_takeDeferred HD2, ?_⟩⟩
    refine ⟨_, results_box (B := w.heap.size) (r := true) rfl rfl ?_, by rw [Hx.out], ?_⟩
    · exact ((Turns.put (T := fun q => q = w.heap.size + 4) _ _ _ rfl).boxed (HI2.out.bl.set _) (by omega)).cell
    · exact (HI2.out.below.trans (hS.below (by omega) (fun i hi => by omega))).trans (belowK_b (w := w) (Nat.le_refl _) _ _ _ _ (by omega) HD2 rfl rfl)

end Go.Proofs.Ytpddkhhdleknnaa
