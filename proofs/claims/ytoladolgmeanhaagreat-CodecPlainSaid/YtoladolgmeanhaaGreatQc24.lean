/- Several texts in one, each with its own head. -/
import Derived.Test.YtoladolgmeanhaaGreatQc22
import Derived.Test.YtoladolgmeanhaaGreatQc23
import Derived.Test.YtoladolgmeanhaaGreatQc18
import Derived.Test.YtoladolgmeanhaaGreatQc19
import Derived.Test.YtoladolgmeanhaaGreatQc9
/- deflate: lay: parts, whatever iterator hands them over, laid by codes. -/
namespace Go.Proofs.YtoladolgmeanhaaGreat
open Go.RowKit Go.Shelf

attribute [local go_sem] Oper.semAt_some

def WrL (G X : Nat → Prop) (base B : Nat) (P : Pt) (W w : World) : Prop :=
  ∃ sv, Wr w base B sv (nmP P) (szP P) ∧ base ≤ w.heap.size ∧ szP P ≤ 8388608 ∧ Turns (fun b => ¬ G b) W w ∧ (∀ b, G b → b ≠ B ∧ sv.ownBlock ≠ some b ∧ b < W.heap.size) ∧ ∀ b, X b → b ≠ B ∧ sv.ownBlock ≠ some b
theorem WrL.of {G X : Nat → Prop} {base B : Nat} {P : Pt} {W w : World} (h : WrY G base B P W w) (hX : ∀ b, X b → w.heap.size ≤ b) : WrL G X base B P W w := by
  obtain ⟨sv, h1, h2, h3, h4, h5⟩ := h
  have hs := h1.size
  exact ⟨sv, h1, h2, h3, h4, h5, fun b hb => ⟨by have := hX b hb; omega, fun e => by have := hX b hb; have := (h1.own.lt b e).2; omega⟩⟩
theorem WrL.y {G X : Nat → Prop} {base B : Nat} {P : Pt} {W w : World} (h : WrL G X base B P W w) : WrY G base B P W w := by
  obtain ⟨sv, h1, h2, h3, h4, h5, -⟩ := h
  exact ⟨sv, h1, h2, h3, h4, h5⟩
theorem WrL.both {G X : Nat → Prop} {base B : Nat} {P : Pt} {W w : World} (h : WrL G X base B P W w) (hX : ∀ b, X b → b < w.heap.size) : WrY (fun b => G b ∨ X b) base B P w w := by
  obtain ⟨sv, h1, h2, h3, h4, h5, h6⟩ := h
  refine ⟨sv, h1, h2, h3, Turns.refl _ _, fun b hb => ?_⟩
  rcases hb with hb | hb
  · exact ⟨(h5 b hb).1, (h5 b hb).2.1, Nat.lt_of_lt_of_le (h5 b hb).2.2 h4.size⟩
  · exact ⟨(h6 b hb).1, (h6 b hb).2, hX b hb⟩
theorem WrL.back {G X : Nat → Prop} {base B : Nat} {P : Pt} {W w w' : World} (h : WrY (fun b => G b ∨ X b) base B P w w') (hG : ∀ b, G b → b < W.heap.size) (ht : Turns (fun b => ¬ G b) W w) : WrL G X base B P W w' := by
  obtain ⟨sv, h1, h2, h3, h4, h5⟩ := h
  exact ⟨sv, h1, h2, h3, ht.trans (h4.mono fun i _ hi hg => hi (.inl hg)), fun b hb => ⟨(h5 b (.inl hb)).1, (h5 b (.inl hb)).2.1, hG b hb⟩, fun b hb => ⟨(h5 b (.inr hb)).1, (h5 b (.inr hb)).2.1⟩⟩
theorem WrL.turn {G X X' S : Nat → Prop} {base B : Nat} {P : Pt} {W w w' : World} (h : WrL G X base B P W w) (ht : Turns S w w') (hS : ∀ b, S b → X b ∧ ¬ G b) (hX : ∀ b, X' b → X b ∨ w.heap.size ≤ b) : WrL G X' base B P W w' := by
  obtain ⟨sv, h1, h2, h3, h4, h5, h6⟩ := h
  have hs := h1.size
  refine ⟨sv, h1.turns ht (fun e => (h6 _ (hS _ e).1).1 rfl) (fun k hk e => (h6 _ (hS _ e).1).2 hk), Nat.le_trans h2 ht.size, h3, h4.trans (ht.mono fun i _ hi hg => (hS i hi).2 hg), h5, fun b hb => ?_⟩
  rcases hX b hb with h | h
  · exact h6 b h
  · exact ⟨by omega, fun e => by have := (h1.own.lt b e).2; omega⟩
structure CdF (g : Nat) (ga ca gc cc : Nat → Nat) (ls : List (List Nat)) (w : World) : Prop where
  a : ∀ j (_ : j < ls.length), w.cell? ⟨g, j * 2, none⟩ = some (.slice (some ⟨ga j, 0, none⟩) ls[j].length (ca j))
  c : ∀ j (_ : j < ls.length), w.cell? ⟨g, j * 2 + 1, none⟩ = some (.slice (some ⟨gc j, 0, none⟩) ls[j].length (cc j))
  l : ∀ j (_ : j < ls.length) i, i < ls[j].length → w.cell? ⟨ga j, i, none⟩ = some (.int .u8 ((lq ls[j] i : Nat) : Int))
  w : ∀ j (_ : j < ls.length) i, i < ls[j].length → 0 < lq ls[j] i → w.cell? ⟨gc j, i, none⟩ = some (.int .u16 ((cd (lq ls[j]) ls[j].length i : Nat) : Int))
def plP (ls : List (List Nat)) (x : Pa) : Pt := [(cd (lq (ls.getD x.c [])) (ls.getD x.c []).length x.s, lq (ls.getD x.c []) x.s), (x.m, x.z)]
def PaOk (ls : List (List Nat)) (x : Pa) : Prop := x.c < ls.length ∧ x.s < (ls.getD x.c []).length ∧ 0 < lq (ls.getD x.c []) x.s ∧ x.m < 2 ^ x.z ∧ x.z ≤ 24
structure LayI (G : Nat → Prop) (W : World) (base B b1 b2 n : Nat) (vc : Value) (P : Pt) (T : Nat → Prop) (w : World) : Prop where
  wr : WrL G (fun b => T b ∨ b = b1 ∨ b = b2 ∨ b = n ∨ b = n + 1) base B P W w
  c1 : w.cell? ⟨b1, 0, none⟩ = some (.pointer (some ⟨B, 0, none⟩))
  c2 : w.cell? ⟨b2, 0, none⟩ = some vc
  sz : n ≤ w.heap.size
def VsPa (vs : Array Value) : Prop := ∃ x : Pa, vs = #[PaV x]
def asgPa (vs : Array Value) (W : World) : World := match vs.getD 0 undef with
  | .agg cs => W.alloc (.cells cs 168)
  | _ => W
set_option maxRecDepth 100000 in
set_option maxHeartbeats 4000000 in
theorem slay_any {G R : Nat → Prop} {W w0 : World} {base B : Nat} {P : Pt} (gf : Nat) (lb : Array Value) (xs : List Pa) (g c : Nat) (ga ca gc cc : Nat → Nat) (ls : List (List Nat)) (w : World) (eg : ∀ args w, (callFunc gf args).run Tryz.prog w = .ok (.enter gf args) w)
    (hseq : Iter Tryz.prog gf lb ElPa R xs w0) (hw0 : w0.heap.size ≤ W.heap.size) (hR : ∀ b, R b → G b ∧ W.heap[b]? = w0.heap[b]?) (h : WrY G base B P W w) (hC : ∀ w', Turns (fun b => ¬ G b) W w' → CdF g ga ca gc cc ls w')
    (hls : ∀ j (_ : j < ls.length), chk ls[j] = 0 ∧ ls[j].length ≤ 320) (hx : ∀ x ∈ xs, PaOk ls x) (hm : szP P + szP (xs.flatMap (plP ls)) ≤ 8388608) :
    Calls Tryz.prog 80 #[.pointer (some ⟨B, 0, none⟩), .func (.func gf) #[] lb, .slice (some ⟨g, 0, none⟩) ls.length c] w fun e w' => e = .returned (.tuple #[]) ∧ WrY G base B (P ++ xs.flatMap (plP ls)) W w' := by
  have hGW : ∀ b, G b → b < W.heap.size := fun b hb => by obtain ⟨_, _, _, _, _, h5⟩ := h; exact (h5 b hb).2.2
  have hWw : W.heap.size ≤ w.heap.size := h.turns.size
  have HC := Lib.hid hC
  have Hx := Lib.hid hx
  have Hls := Lib.hid hls
  have Hm := Lib.hid hm
  have H := Lib.hid h
  have Hseq := Lib.hid hseq
  have HR := Lib.hid hR
  have HG := Lib.hid hGW
  obtain ⟨nl, hnl⟩ : ∃ nl, ls.length = nl := ⟨_, rfl⟩
  have Hnl := Lib.hid hnl
  rw [hnl]
  clear hC hx hls hm h hseq hR hGW hnl
  refine (callsIn_wide (n := 0)).1 ?_
  refine callsIn_of_wp_marks Tryz.func80 rfl trivial ?_ rfl
  simp only [Tryz.ntmps80, List.size_toArray, List.length_cons, List.length_nil, Nat.reduceAdd, Nat.reduceSub, Array.replicate_succ, Array.replicate_zero, List.push_toArray, List.append_toArray, List.nil_append, List.cons_append]
  refine wpIn_wide.2 ?_
  go_wp2_with fail
  have hal : Below w.heap.size w ((w.alloc (.cells #[.pointer (some ⟨B, 0, none⟩)] 54)).alloc (.cells #[.slice (some ⟨g, 0, none⟩) nl c] 130)) := Below.al (Below.al1 _ _) _
  have hg := heap_pushed [.cells #[.pointer (some ⟨B, 0, none⟩)] 54, .cells #[.slice (some ⟨g, 0, none⟩) nl c] 130] w
  simp only [List.foldl_cons, List.foldl_nil] at hg
  have hsz : ((w.alloc (.cells #[.pointer (some ⟨B, 0, none⟩)] 54)).alloc (.cells #[.slice (some ⟨g, 0, none⟩) nl c] 130)).heap.size = w.heap.size + 2 := by simp
  generalize (w.alloc (.cells #[.pointer (some ⟨B, 0, none⟩)] 54)).alloc (.cells #[.slice (some ⟨g, 0, none⟩) nl c] 130) = W1 at *
  have hc1 : W1.cell? ⟨w.heap.size, 0, none⟩ = some (.pointer (some ⟨B, 0, none⟩)) := cell_heap ((hg 0 _).2 rfl) rfl
  have hc2 : W1.cell? ⟨w.heap.size + 1, 0, none⟩ = some (.slice (some ⟨g, 0, none⟩) nl c) := cell_heap ((hg 1 _).2 rfl) rfl
  have hI0 : LayI G W base B w.heap.size (w.heap.size + 1) (w.heap.size + 2) (.slice (some ⟨g, 0, none⟩) nl c) P (fun _ => False) W1 := by
    refine ⟨?_, hc1, hc2, by omega⟩
    have := (WrL.of (X := fun b => w.heap.size ≤ b) H.out (fun b hb => hb)).turn (X' := fun b => False ∨ b = w.heap.size ∨ b = w.heap.size + 1 ∨ b = w.heap.size + 2 ∨ b = w.heap.size + 2 + 1) (S := fun _ => False) (Turns.of_below' hal) (fun _ h => h.elim) (fun b hb => by
      left
      show w.heap.size ≤ b
      rcases (show False ∨ b = w.heap.size ∨ b = w.heap.size + 1 ∨ b = w.heap.size + 2 ∨ b = w.heap.size + 2 + 1 from hb) with h | h | h | h | h
      · exact h.elim
      all_goals omega)
    exact this
  clear hg hc1 hc2
  refine (wpIn_wide (n := 0)).1 ?_
  refine wpIn_rangeFunc_made (gf := gf) (El := ElPa) (xs := xs) (w0 := w0) ?hg ?eg Hseq.out ?hs0 ?hRr VsPa asgPa ?hps ?hasg
    (fun pre T W' => LayI G W base B w.heap.size (w.heap.size + 1) (w.heap.size + 2) (.slice (some ⟨g, 0, none⟩) nl c) (P ++ pre.flatMap (plP ls)) T W') (fun _ _ _ _ => False) ?start
    (fun vs W' => { tmps := #[.pointer (some ⟨B, 0, none⟩), .func (.func gf) #[] lb, .slice (some ⟨g, 0, none⟩) nl c, .pointer (some ⟨w.heap.size, 0, none⟩), undef, .pointer (some ⟨w.heap.size + 1, 0, none⟩), .pointer (some ⟨W'.heap.size, 0, none⟩), undef, .func (.func gf) #[] lb, vs.getD 0 undef, undef, undef, undef, undef, undef, undef, undef, undef, undef, undef, undef, undef, undef, undef, undef, undef, undef, undef, undef, undef, undef, undef, undef, undef, undef, undef, undef], defers := [] }) ?assign ?body ?done ?stop
  case hg => rfl
  case eg => exact eg
  case hs0 => have := hal.size; omega
  case hRr => exact fun q hq => ⟨by have := HG.out _ (HR.out q hq).1; omega, by
    have h1 := HG.out _ (HR.out q hq).1
    have h2 := H.out.turns.block q h1 (fun h => h (HR.out q hq).1)
    rw [hal.block q (by omega), h2]
    exact (HR.out q hq).2⟩
  case hps =>
    rintro _ _ _ x _ h
    rw [h]; exact ⟨rfl, x, rfl⟩
  case hasg =>
    rintro _ W' ⟨x, rfl⟩
    exact Below.al1 W' _
  case start => simpa using hI0
  case assign =>
    rintro l _ W' K ⟨x, rfl⟩ hK
    gi_wp2
    first
      | exact hK
      | simpa using hK
      | simpa [Array.zip, Array.zipWith, asgPa] using hK
  case stop => exact fun _ _ _ _ _ _ h => h.elim
  case body =>
    rintro pre x rest Tp T Wq Wp W1' W2 vs hxs hI htqp hsq hsq1 ht2 hTp hT hT2 hR2 hEl h12 hs12 h1a hLt hL1 hD2 hL2
    simp only [hsz] at ht2 hTp hT2 h12 hLt hL1 hD2 hL2 htqp ⊢
    obtain rfl : vs = #[PaV x] := hEl
    obtain ⟨r0, hr0⟩ := hL1
    have hnlt : w.heap.size + 2 + 1 < W1'.heap.size := lt_heap hr0
    have hpa : PaAt W2 W1'.heap.size x := (h1a.block _ (by show W1'.heap.size < (W1'.alloc _).heap.size; rw [World.size_alloc]; omega) (by omega)).trans (pa_new W1' x)
    obtain ⟨pb, hpb⟩ : ∃ pb, W1'.heap.size = pb := ⟨_, rfl⟩
    have hpbq : Wq.heap.size ≤ pb := by rw [← hpb]; exact Nat.le_trans hsq hsq1
    rw [hpb] at hpa hnlt ⊢
    have hGn : ∀ b, G b → b < w.heap.size := fun b hb => Nat.lt_of_lt_of_le (HG.out b hb) hWw
    have hW2 : WrL G (fun b => T b ∨ b = w.heap.size ∨ b = w.heap.size + 1 ∨ b = w.heap.size + 2 ∨ b = w.heap.size + 2 + 1 ∨ b = pb) base B (P ++ pre.flatMap (plP ls)) W W2 :=
      hI.wr.turn ht2 (fun b hb => by
        refine ⟨?_, fun hg => ?_⟩
        · rcases hb with hb | hb | hb
          · exact .inl hb
          · exact .inr (.inr (.inr (.inr hb)))
          · exact .inr (.inr (.inr (.inl hb)))
        · have := hGn b hg
          rcases hb with hb | hb | hb
          · have := (hTp b hb).1; omega
          · omega
          · omega) (fun b hb => by
        rcases hb with hb | hb | hb | hb | hb | hb
        · rcases hT b hb with h | h
          · exact .inl (.inl h)
          · exact .inr (by omega)
        · exact .inl (.inr (.inl hb))
        · exact .inl (.inr (.inr (.inl hb)))
        · exact .inl (.inr (.inr (.inr (.inl hb))))
        · exact .inl (.inr (.inr (.inr (.inr hb))))
        · exact .inr (by omega))
    have hc1 := ht2.cell hI.c1 (fun hb => by
      rcases (show Tp (w.heap.size) ∨ w.heap.size = w.heap.size + 2 + 1 ∨ w.heap.size = w.heap.size + 2 from hb) with hb | hb | hb
      · have := (hTp _ hb).1; omega
      · omega
      · omega)
    have hc2 := ht2.cell hI.c2 (fun hb => by
      rcases (show Tp (w.heap.size + 1) ∨ w.heap.size + 1 = w.heap.size + 2 + 1 ∨ w.heap.size + 1 = w.heap.size + 2 from hb) with hb | hb | hb
      · have := (hTp _ hb).1; omega
      · omega
      · omega)
    have hbl : ∀ b, (T b ∨ b = w.heap.size ∨ b = w.heap.size + 1 ∨ b = w.heap.size + 2 ∨ b = w.heap.size + 2 + 1 ∨ b = pb) → b < W2.heap.size := fun b hb => by
      rcases hb with hb | hb | hb | hb | hb | hb
      · exact (hT2 b hb).2
      all_goals (have := lt_heap hpa; omega)
    have HY := Lib.hid (hW2.both hbl)
    have HtW := Lib.hid hW2.y.turns
    obtain ⟨o1, o2, o3, o4, o5⟩ := Hx.out x (by rw [hxs]; simp)
    have hcd := HC.out W2 HtW.out
    have Hok := Lib.hid (⟨o4, o5⟩ : x.m < 2 ^ x.z ∧ x.z ≤ 24)
    have Hsz : Hid (szP (P ++ pre.flatMap (plP ls)) + lq (ls.getD x.c []) x.s + x.z ≤ 8388608) := Lib.hid (by
      have h1 := Hm.out
      rw [hxs] at h1
      simp only [List.flatMap_append, List.flatMap_cons, szP_app, plP, szP] at h1 ⊢
      omega)
    obtain ⟨l, hl0⟩ : ∃ l, ls.getD x.c [] = l := ⟨_, rfl⟩
    have hget : ls[x.c] = l := by rw [← hl0, List.getD_eq_getElem?_getD, List.getElem?_eq_getElem o1]; rfl
    have xa := hcd.a x.c o1
    have xc := hcd.c x.c o1
    have xl := hcd.l x.c o1 x.s (by rw [hget, ← hl0]; exact o2)
    have xw := hcd.w x.c o1 x.s (by rw [hget, ← hl0]; exact o2) (by rw [hget, ← hl0]; exact o3)
    obtain ⟨hk0, hk1⟩ := Hls.out x.c o1
    have Hpl := Lib.hid (show plP ls x = [(cd (lq l) l.length x.s, lq l x.s), (x.m, x.z)] by unfold plP; rw [hl0])
    rw [hl0] at Hsz o2 o3
    rw [hget] at xa xc xl xw hk0 hk1
    have hK := lq_15 hk0 x.s
    have HX := Lib.hid (cd_low (lq l) l.length x.s)
    have hX16 : cd (lq l) l.length x.s < 65536 := Nat.lt_of_lt_of_le (cd_low _ _ _) (Nat.le_trans (Nat.pow_le_pow_right (n := 2) (by omega) hK) (by decide))
    obtain ⟨NL, hNL⟩ : ∃ NL, l.length = NL := ⟨_, rfl⟩
    obtain ⟨X, hXe⟩ : ∃ X, cd (lq l) l.length x.s = X := ⟨_, rfl⟩
    obtain ⟨K, hKe⟩ : ∃ K, lq l x.s = K := ⟨_, rfl⟩
    rw [hXe, hKe] at HX Hpl
    rw [hXe] at hX16 xw
    rw [hKe] at hK xl Hsz
    rw [hNL] at xa xc o2 hk1
    have hnl := Hnl.out
    have o1' : x.c < nl := by rw [← hnl]; exact o1
    obtain ⟨p0, p1, p2, p3⟩ := hpa.c
    have Hpa := Lib.hid hpa
    have Hbl := Lib.hid hbl
    have HGn := Lib.hid hGn
    have hW2s : pb < W2.heap.size := lt_heap hpa
    have Hxs := Lib.hid hxs
    obtain ⟨⟨xc0, xs0, xm0, xz0⟩, hxx⟩ : ∃ q : Pa, q = x := ⟨x, rfl⟩
    subst hxx
    simp only at p0 p1 p2 p3 xa xc xl xw o1' o2 hK Hok Hsz
    have i0 : (0 : Int) ≤ (xc0 : Int) := by omega
    have i1 : (xc0 : Int) < (nl : Int) := by omega
    have i2 : (0 : Int) ≤ (xs0 : Int) := by omega
    have i3 : (xs0 : Int) < (NL : Int) := by omega
    have hwX : IntKind.i64.wrap (X : Int) = (X : Int) := IntWalk.i64_in _ (by omega)
    have hwK : IntKind.i64.wrap (K : Int) = (K : Int) := IntWalk.i64_in _ (by omega)
    generalize ga xc0 = ga0 at *
    generalize ca xc0 = ca0 at *
    generalize gc xc0 = gc0 at *
    generalize cc xc0 = cc0 at *
    clear hI ht2 hTp hT hR2 h12 hs12 h1a hLt hD2 hL2 htqp hsq hsq1 hW2 hcd hl0 hget hk0 hNL hXe hKe hpa hbl hGn hxs hr0 hnlt hpbq hI0 o1 o3 hnl
    have e0 : (#[PaV ⟨xc0, xs0, xm0, xz0⟩] : Array Value).getD 0 undef = PaV ⟨xc0, xs0, xm0, xz0⟩ := rfl
    rw [e0]
    clear e0
    gi_wp2
    have hbu := Below.al1 W2 (.cells #[.slice (some ⟨ga0, 0, none⟩) NL ca0, .slice (some ⟨gc0, 0, none⟩) NL cc0] 135)
    have z0 : (W2.alloc (.cells #[.slice (some ⟨ga0, 0, none⟩) NL ca0, .slice (some ⟨gc0, 0, none⟩) NL cc0] 135)).cell? ⟨W2.heap.size, 0, none⟩ = some (.slice (some ⟨ga0, 0, none⟩) NL ca0) := cell_heap (World.alloc_heap_new W2 _) rfl
    have z1 : (W2.alloc (.cells #[.slice (some ⟨ga0, 0, none⟩) NL ca0, .slice (some ⟨gc0, 0, none⟩) NL cc0] 135)).cell? ⟨W2.heap.size, 1, none⟩ = some (.slice (some ⟨gc0, 0, none⟩) NL cc0) := cell_heap (World.alloc_heap_new W2 _) rfl
    have HbU := Lib.hid hbu
    have q1 := cell_later hbu p1
    have q3 := cell_later hbu hc1
    have q4 := cell_later hbu xl
    have q5 := cell_later hbu xw
    have HS2 := Lib.hid (Nat.le_refl W2.heap.size)
    generalize W2.alloc (.cells #[.slice (some ⟨ga0, 0, none⟩) NL ca0, .slice (some ⟨gc0, 0, none⟩) NL cc0] 135) = u1 at *
    obtain ⟨qb, hqb⟩ : ∃ qb, W2.heap.size = qb := ⟨_, rfl⟩
    rw [hqb] at z0 z1 ⊢
    clear hqb xa xc hbu HS2
    have hqq := After.ne u1
    have C0 := After.rule z0
    have C1 := After.rule z1
    have C2 := After.rule q1
    have C3 := After.rule q3
    have C4 := After.rule q4
    have C5 := After.rule q5
    refine wpIn_region_head 15 (by kernel_rfl) (by kernel_rfl) (by kernel_rfl) (by kernel_rfl) (fun h => by obtain ⟨_, _, h⟩ := h; exact h) ?_
    repeat (refine Lq_step (fun K hK => ?_); go_simp; (refine hK _ ?_; clear hK K))
    refine Lq_nil ?_
    intro w3 hb3
    simp only [List.drop_succ_cons, List.drop_zero]
    have H4 := Lib.hid (WrF.start (F := fun _ => True) ((HY.out.below HbU.out).below hb3) (fun _ _ => trivial))
    clear C0 C1 C2 C3 C4 C5 hqq hb3 z0 z1 q1 q3 q4 q5 xl xw
    go_wp2_with fail
    refine Calls.mono (numberD_any (v := X) (k := K) H4.out HX.out (by omega) (by have := Hsz.out; omega)) ?_
    rintro _ w4 ⟨rfl, h4⟩
    have H5 := Lib.hid h4.done
    have ht5 := h4.done.turns
    have r1 := ht5.cell hc1 (fun h => h (.inr (.inr (.inl rfl))))
    have hguard : ¬ ¬ (G pb ∨ (T pb ∨ pb = w.heap.size ∨ pb = w.heap.size + 1 ∨ pb = w.heap.size + 2 ∨ pb = w.heap.size + 2 + 1 ∨ pb = pb)) := fun h => h (.inr (.inr (.inr (.inr (.inr (.inr rfl))))))
    have r2 := ht5.cell p2 hguard
    have r3 := ht5.cell p3 hguard
    have Hc1 := Lib.hid hc1
    have Hc2 := Lib.hid hc2
    clear h4 H4 ht5 hguard p0 p1 p2 p3 hc1 hc2
    have H6 := Lib.hid (numberD_any (v := xm0) (k := xz0) (WrF.start (F := fun _ => True) H5.out (fun _ _ => trivial)) Hok.out.1 Hok.out.2 (by have := Hsz.out; simp only [szP_app, szP] at this ⊢; omega))
    go_wp2
    gi_wp2
    refine ⟨trivial, rfl, (CallsIn.inRound _ (callsIn_wide.2 H6.out)).mono ?_⟩
    rintro _ w5 ⟨rfl, h7⟩
    have H7 := Lib.hid h7.done
    clear h7 H6 H5 r1 r2 r3
    gi_wp2
    have hs7 := H7.out.turns
    have hn2 := Hbl.out (w.heap.size + 2 + 1) (.inr (.inr (.inr (.inr (.inl rfl)))))
    refine ⟨⟨?_, hs7.cell Hc1.out (fun h => h (.inr (.inr (.inl rfl)))), hs7.cell Hc2.out (fun h => h (.inr (.inr (.inr (.inl rfl))))), by have := hs7.size; omega⟩, hs7.size, fun b hb => hs7.block b ?_ (fun h => h ?_)⟩
    · have := (WrL.back H7.out HG.out HtW.out).turn (S := fun _ => False) (X' := fun b => T b ∨ b = w.heap.size ∨ b = w.heap.size + 1 ∨ b = w.heap.size + 2 ∨ b = w.heap.size + 2 + 1) (Turns.refl _ _) (fun _ h => h.elim) (fun b hb => .inl (by
        rcases hb with hb | hb | hb | hb | hb
        · exact .inl hb
        · exact .inr (.inl hb)
        · exact .inr (.inr (.inl hb))
        · exact .inr (.inr (.inr (.inl hb)))
        · exact .inr (.inr (.inr (.inr (.inl hb))))))
      have e : P ++ (pre ++ [(⟨xc0, xs0, xm0, xz0⟩ : Pa)]).flatMap (plP ls) = P ++ pre.flatMap (plP ls) ++ [(X, K)] ++ [(xm0, xz0)] := by
        rw [List.flatMap_append, List.flatMap_singleton, Hpl.out]; simp
      rw [e]
      exact this
    · rcases hb with hb | hb | hb | hb
      · have := HGn.out b (HR.out b hb).1; omega
      · exact Hbl.out b (.inl hb)
      · omega
      · omega
    · rcases hb with hb | hb | hb | hb
      · exact .inl (HR.out b hb).1
      · exact .inr (.inl hb)
      · exact .inr (.inr (.inr (.inr (.inr (.inl hb)))))
      · exact .inr (.inr (.inr (.inr (.inl hb))))
  case done =>
    intro Tp Wq W' hI htt hTp hlt hD
    rw [hsz] at htt hTp hlt hD
    have hGn : ∀ b, G b → b < w.heap.size := fun b hb => Nat.lt_of_lt_of_le (HG.out b hb) hWw
    have hW2 : WrL G (fun b => b = w.heap.size + 2) base B (P ++ xs.flatMap (plP ls)) W W' :=
      hI.wr.turn htt (fun b hb => by
        refine ⟨?_, fun hg => ?_⟩
        · rcases hb with hb | hb | hb
          · exact .inl hb
          · exact .inr (.inr (.inr (.inr hb)))
          · exact .inr (.inr (.inr (.inl hb)))
        · have := hGn b hg
          rcases hb with hb | hb | hb
          · have := hTp b hb; omega
          · omega
          · omega) (fun b hb => .inl (.inr (.inr (.inr (.inl hb)))))
    rw [hsz]
    have HD := Lib.hid hD
    have HW2 := Lib.hid hW2
    have HGn := Lib.hid hGn
    clear hI htt hD hI0 hW2 hGn
    dsimp only
    go_wp2
    refine ⟨by simp, .inl ⟨_, _, rfl, run_takeDeferred HD.out, ?_⟩⟩
    refine ⟨_, results_none rfl _ _ _, rfl, ?_⟩
    exact (HW2.out.turn (S := fun b => b = w.heap.size + 2) (X' := fun _ => False) (Turns.put W' (w.heap.size + 2) (.deferred none) rfl) (fun b hb => ⟨hb, fun hg => by have := HGn.out b hg; omega⟩) (fun _ h => h.elim)).y
end Go.Proofs.YtoladolgmeanhaaGreat

/- deflate, plainly: the parts of tokens, laid, are the tokens laid. -/
namespace Go.Proofs.YtoladolgmeanhaaGreat
open Go.RowKit

theorem pas_ok {A D : List Nat} {ts : List Tk} (hx : ∀ t ∈ ts, t.okB = true) (hc : ∀ t ∈ ts, codT A D t) (h6 : 256 < A.length ∧ 0 < lq A 256) : ∀ x ∈ pasT ts, PaOk [A, D] x := by
  intro x hxm
  rcases List.mem_append.1 hxm with hxm | hxm
  · obtain ⟨t, ht, hxt⟩ := List.mem_flatMap.1 hxm
    obtain ⟨c1, c2⟩ := hc t ht
    unfold paT at hxt
    by_cases h0 : t.n = 0
    · rw [if_pos h0, List.mem_singleton] at hxt
      subst hxt
      obtain ⟨-, b2, b3⟩ := c1 h0
      exact ⟨by simp, b2, b3, by simp, by simp⟩
    · rw [if_neg h0] at hxt
      obtain ⟨b1, b2, b3, b4⟩ := c2 h0
      rcases tk_okD (hx t ht) with e | ⟨n, d, e1, e2, n1, n2, n3, n4⟩
      · exact absurd e h0
      · have f1 : t.n.toNat = n := by omega
        have f2 : t.d.toNat = d := by omega
        rw [f1] at hxt b1 b2
        rw [f2] at hxt b3 b4
        obtain ⟨-, s2, -, s4⟩ := lnSym_ok n (by omega) n1
        obtain ⟨r1, -, r3⟩ := dsSym_ok n3 n4
        have k1 := lnBits_lo _ (show lnSym n < 286 by omega)
        have k2 := dsBits_lo _ (show dsSym d < 30 by omega)
        rcases List.mem_cons.1 hxt with rfl | hxt
        · exact ⟨by show 0 < 2; omega, b1, b2, s4, by show lnBits (lnSym n) ≤ 24; omega⟩
        · rw [List.mem_singleton] at hxt
          subst hxt
          exact ⟨by show 1 < 2; omega, b3, b4, r3, by show dsBits (dsSym d) ≤ 24; omega⟩
  · rw [List.mem_singleton] at hxm
    subst hxm
    exact ⟨by simp, h6.1, h6.2, by simp, by simp⟩
end Go.Proofs.YtoladolgmeanhaaGreat

/- deflate: trimmed, ordered, coderOf. -/
namespace Go.Proofs.YtoladolgmeanhaaGreat
open Go.RowKit Go.Maps

def trN (l : List Nat) (least : Nat) : Nat → Nat
  | 0 => 0
  | m + 1 => if least < m + 1 ∧ lq l m = 0 then trN l least m else m + 1
theorem trN_le (l : List Nat) (least : Nat) : ∀ m, trN l least m ≤ m
  | 0 => Nat.le_refl _
  | m + 1 => by
    have := trN_le l least m
    rw [trN]
    split <;> omega
theorem trN_least (l : List Nat) (least : Nat) : ∀ m, least ≤ m → least ≤ trN l least m
  | 0, h => h
  | m + 1, h => by
    rw [trN]
    split
    · rename_i h1
      exact trN_least l least m (by omega)
    · exact h
theorem trN_zero (l : List Nat) (least : Nat) : ∀ m i, trN l least m ≤ i → i < m → lq l i = 0
  | 0, _, _, h => by omega
  | m + 1, i, h, hi => by
    rw [trN] at h
    split at h
    · rename_i h1
      by_cases e : i = m
      · rw [e]; exact h1.2
      · exact trN_zero l least m i h (by omega)
    · omega
set_option maxRecDepth 20000 in
set_option maxHeartbeats 4000000 in
theorem trimmed_any (g off c least : Nat) (l : List Nat) (w : World) (hlc : l.length ≤ c) (hl : l.length ≤ 1048576) (hle : least ≤ 1048576) (hc : ∀ i, i < l.length → w.cell? ⟨g, off + i, none⟩ = some (.int .u8 ((lq l i : Nat) : Int))) :
    Calls Tryz.prog 116 #[.slice (some ⟨g, off, none⟩) l.length c, .int .i64 (least : Int)] w fun e w' => e = .returned (.slice (some ⟨g, off, none⟩) (trN l least l.length) c) ∧ w' = w := by
  have Hc := Lib.hid hc
  obtain ⟨n, hn⟩ : ∃ n, l.length = n := ⟨_, rfl⟩
  rw [hn] at hlc hl Hc ⊢
  obtain ⟨T, hT⟩ : ∃ T, trN l least n = T := ⟨_, rfl⟩
  have HT := Lib.hid hT
  rw [hT]
  clear hc hn hT
  go_enter Tryz.func116, Tryz.ntmps116
  go_wp2
  go_loopw [0] (fun sv wr => ∃ m : Nat, sv = .slice (some ⟨g, off, none⟩) m c ∧ m ≤ n ∧ Hid (trN l least m = T) ∧ wr = w) (fun sv _ => match sv with | .slice _ m _ => m | _ => 0)
  case atStart => exact ⟨n, rfl, Nat.le_refl _, HT, rfl⟩
  case round =>
    obtain ⟨m, rfl, hm, HM, rfl⟩ := hrel
    have hM := HM.out
    by_cases hlm : least < m
    · have d1 : decide ((m : Int) > (least : Int)) = true := by simp; omega
      obtain ⟨j, rfl⟩ : ∃ j, m = j + 1 := ⟨m - 1, by omega⟩
      have c0 := Hc.out j (by omega)
      have hw1 : IntKind.i64.wrap (((j + 1 : Nat) : Int) - 1) = (j : Int) := by rw [IntWalk.i64_in _ (by omega)]; omega
      have hw2 : ((j + 1 : Nat) : Int) - 1 = (j : Int) := by omega
      have i0 : (0 : Int) ≤ (j : Int) := by omega
      have i1 : (j : Int) < ((j + 1 : Nat) : Int) := by omega
      have hsl := slice_hiD (some ⟨g, off, none⟩) (j + 1) c j (by omega)
      obtain ⟨x, hx⟩ : ∃ x, lq l j = x := ⟨_, rfl⟩
      rw [hx] at c0
      by_cases hx0 : x = 0
      · have d2 : ((x : Int) == 0) = true := by simp; omega
        have HM2 : Hid (trN l least j = T) := Lib.hid (by
          rw [trN, if_pos ⟨hlm, by rw [hx]; exact hx0⟩] at hM
          exact hM)
        clear hM hx hx0
        go_wp2
        go_roundw
        case rel => exact ⟨j, rfl, by omega, HM2, trivial⟩
        case measure => simp
      · have d2 : ((x : Int) == 0) = false := by simp; omega
        have e : Hid (j + 1 = T) := Lib.hid (by
          rw [trN, if_neg (fun h => hx0 (by rw [← hx]; exact h.2))] at hM
          exact hM)
        clear hM hx hx0
        go_wp2
        go_ret
        exact ⟨by rw [← e.out]; rfl, rfl⟩
    · have d1 : decide ((m : Int) > (least : Int)) = false := by simp; omega
      have e : Hid (m = T) := Lib.hid (by
        cases m with
        | zero => exact hM
        | succ j =>
          rw [trN, if_neg (fun h => hlm h.1)] at hM
          exact hM)
      clear hM
      go_wp2
      go_ret
      exact ⟨by rw [← e.out]; rfl, rfl⟩
theorem results_cdr {fn : Func} {p : Tmp} {tmps : Array Value} {w : World} {B : Nat} {p1 p2 : Option Addr} {n1 n2 c1 c2 : Nat} (h : fn.results = #[.cell p 135]) (hp : tmps.getD p undef = .pointer (some ⟨B, 0, none⟩)) (hl : w.heap[B]? = some (.cells #[.slice p1 n1 c1, .slice p2 n2 c2] 135)) : (results fn tmps).run Tryz.prog w = .ok (.agg #[.slice p1 n1 c1, .slice p2 n2 c2]) w := by
  have x0 : w.cell? ⟨B, 0, none⟩ = some (.slice p1 n1 c1) := cell_heap hl rfl
  have x1 : w.cell? ⟨B, 1, none⟩ = some (.slice p2 n2 c2) := cell_heap hl rfl
  have hp' : tmps[p]?.getD undef = .pointer (some ⟨B, 0, none⟩) := by simpa using hp
  simp [results, h, hp', go_sem, x0, x1]
set_option maxRecDepth 20000 in
set_option maxHeartbeats 4000000 in
theorem coderOf_any (ls : List Nat) (v : Value) (w : World) (hv : Row enc8 1 w v ls) (hc : chk ls = 0) :
    Calls Tryz.prog 114 #[v] w fun e w' => ∃ v', e = .returned (.agg #[v, v']) ∧ w'.ownsRow w.heap.size 120 1 v' ls.length (cRow (fun i => if 0 < lq ls i then cd (lq ls) ls.length i else 0) ls.length) ∧ Below w.heap.size w w' := by
  have hb0 := Below.al1 w (.cells #[.slice none 0 0, .slice none 0 0] 135)
  have Hcall := Lib.hid (codes_ok ls v _ (hv.below hb0) hc)
  obtain ⟨p, c, rfl, -, -, -⟩ := hv
  go_enter Tryz.func114, Tryz.ntmps114
  have hz0 := World.alloc_heap_new w (.cells #[.slice none 0 0, .slice none 0 0] 135)
  have hs1 : w.heap.size < (w.alloc (.cells #[.slice none 0 0, .slice none 0 0] 135)).heap.size := by rw [World.size_alloc]; omega
  go_upto_region 1 with (fail)
  generalize w.alloc (.cells #[.slice none 0 0, .slice none 0 0] 135) = w1 at *
  go_wp2_with fail
  refine Calls.mono Hcall.out ?_
  rintro _ w2 ⟨v2, rfl, ho2, hb2⟩
  have hz2 := (hb2.block _ hs1).trans hz0
  obtain ⟨p2, c2, rfl⟩ := owns_slice ho2
  have HB := Lib.hid (Below.thn hb0 hb2)
  have x0 : w2.cell? ⟨w.heap.size, 0, none⟩ = some (.slice none 0 0) := cell_heap hz2 rfl
  have x1 : w2.cell? ⟨w.heap.size, 1, none⟩ = some (.slice none 0 0) := cell_heap hz2 rfl
  have y0 : w2.frozen? ⟨w.heap.size, 0, none⟩ = false := by simp [World.frozen?, hz2]
  have y1 : w2.frozen? ⟨w.heap.size, 1, none⟩ = false := by simp [World.frozen?, hz2]
  have HZ := Lib.hid (two_set1 (.slice p2 ls.length c2) (two_set0 (.slice p ls.length c) hz2))
  have HO : Hid (((w2.setCell ⟨w.heap.size, 0, none⟩ (.slice p ls.length c)).setCell ⟨w.heap.size, 1, none⟩ (.slice p2 ls.length c2)).ownsRow w.heap.size 120 1 (.slice p2 ls.length c2) ls.length (cRow (fun i => if 0 < lq ls i then cd (lq ls) ls.length i else 0) ls.length)) := Lib.hid (by
    have h1 := ((Turns.refl (fun b => b = w.heap.size) w2).set (p := ⟨w.heap.size, 0, none⟩) rfl (.slice p ls.length c)).set (p := ⟨w.heap.size, 1, none⟩) rfl (.slice p2 ls.length c2)
    have h2 := h1.owns ho2 (fun k hk e => by have := (ho2.lt k hk).1; omega)
    exact ⟨h2.1, h2.2.imp id fun ⟨g, cap, cur, a, b, d⟩ => ⟨g, cap, cur, a, by omega, d⟩⟩)
  have HBS := Lib.hid ((HB.out.setCell (p := ⟨w.heap.size, 0, none⟩) (Nat.le_refl _) (.slice p ls.length c)).setCell (p := ⟨w.heap.size, 1, none⟩) (Nat.le_refl _) (.slice p2 ls.length c2))
  clear ho2 hb2 hz2 hz0 hb0
  go_wp2
  exact bodyPost_ret (v := .agg #[.slice p ls.length c, .slice p2 ls.length c2]) (results_cdr Tryz.results114 rfl HZ.out) rfl ⟨_, rfl, HO.out, HBS.out⟩
end Go.Proofs.YtoladolgmeanhaaGreat
