/- pixbuf's lay: rows copied, and cut to 24 bits. -/
import Derived.Test.YtajoipmchgabfaaM41
namespace Go.Proofs.Ytajoipmchgabfaa
open Go.RowKit

attribute [local go_sem] Oper.semAt_some

def encU (n : Int) : List Value := [.int .u32 n]

/-- Between two rounds of lay's loop. -/
structure LayInv (W0 : World) (g : Nat) (f : Nat → List Int) (pre : List Nat) (W : World) : Prop where
  px : Pix W g (f pre.length)
  tr : Turns (fun b => b = g) W0 W

theorem LayInv.turns {W0 W W2 : World} {g : Nat} {f : Nat → List Int} {pre : List Nat} {Tp : Nat → Prop} (h : LayInv W0 g f pre W) (hg : g < W0.heap.size) (ht : Turns (fun b => Tp b ∨ b = W0.heap.size + 1 ∨ b = W0.heap.size) W W2) (hTp : ∀ b, Tp b → W0.heap.size + 1 < b) : LayInv W0 g f pre W2 := by
  have no : ∀ b, b < W0.heap.size → ¬ (Tp b ∨ b = W0.heap.size + 1 ∨ b = W0.heap.size) := fun b hb h => by
    rcases h with h | h
    · have := hTp _ h; omega
    · omega
  exact ⟨h.px.same (ht.block g (Nat.lt_of_lt_of_le hg h.tr.size) (no g hg)), h.tr.trans' ht (fun i hi h => absurd h (no i hi))⟩

theorem range_pre {n k : Nat} {pre rest : List Nat} (h : List.range n = pre ++ k :: rest) : pre.length = k ∧ k < n := by
  have h1 : (List.range n)[pre.length]? = some k := by rw [h]; simp
  rw [List.getElem?_range] at h1
  · have hl : (List.range n).length = (pre ++ k :: rest).length := by rw [h]
    simp at hl
    cases h1
    exact ⟨rfl, by omega⟩
  · have hl : (List.range n).length = (pre ++ k :: rest).length := by rw [h]
    simp at hl
    omega

theorem src_seg {W : World} {b off : Nat} {S : List Int} (h : RowAt encU 1 W (some ⟨b, off, none⟩) S) (F aw : Nat) : ∀ j v, ((S.drop F).take aw)[j]? = some v → W.cell? ((⟨b, off + F, none⟩ : Addr).add j) = some (.int .u32 v) := by
  intro j v hj
  rw [List.getElem?_take] at hj
  split at hj
  · rw [List.getElem?_drop] at hj
    rcases h with ⟨h, _⟩ | ⟨b', off', h, _, h4⟩
    · cases h
    · cases h
      have := h4 (F + j) v hj 0 (.int .u32 v) rfl
      rw [Addr.add_lit]
      rw [Nat.mul_one, Nat.add_zero, ← Nat.add_assoc] at this
      exact this
  · cases hj

set_option maxRecDepth 100000 in
set_option maxHeartbeats 2000000 in
theorem lay_any (tw th ax ay aw ah fw fh px py g fb foff fn fcap : Nat) (S L : List Int) (w : World) (hL : Pix w g L) (hSr : RowAt encU 1 w (some ⟨fb, foff, none⟩) S) (hne : fb ≠ g) (hSl : S.length = fn) (hcap : fn ≤ fcap) (hmax : fcap ≤ 9223372036854775807) (hLm : L.length ≤ 1048576) (hS : U32 S) (hU : U32 L)
    (hw1 : tw ≤ 1048576) (hw2 : fw ≤ 1048576) (hy1 : ay + ah ≤ 1048576) (hy2 : py + ah ≤ 1048576) (ha : 0 < aw) (hfit : ∀ k, k < ah → (ay + k) * tw + ax + aw ≤ L.length ∧ (py + k) * fw + px + aw ≤ S.length) :
    Calls Try.prog 39 #[IV tw th (.slice (some ⟨g, 0, none⟩) L.length L.length), RV ⟨ax, ay, aw, ah⟩, IV fw fh (.slice (some ⟨fb, foff, none⟩) fn fcap), RV ⟨px, py, aw, ah⟩] w fun e w' =>
      e = .returned (.tuple #[]) ∧ Pix w' g (layL tw ax ay aw fw px py S L ah) ∧ Turns (fun b => b = g) w w' := by
  have hglt := hL.lt
  have Hfit := Lib.hid hfit
  clear hfit
  refine (callsIn_wide (n := 0)).1 ?_
  refine callsIn_of_wp_marks Try.func39 rfl trivial ?_ rfl
  simp only [Try.ntmps39, List.size_toArray, List.length_cons, List.length_nil, Nat.reduceAdd, Nat.reduceSub, Array.replicate_succ, Array.replicate_zero, List.push_toArray, List.append_toArray, List.nil_append, List.cons_append]
  refine wpIn_wide.2 ?_
  go_wp2_with (go_at_call 33; refine Calls.mono (pixRows_made tw th (.slice (some ⟨g, 0, none⟩) L.length L.length) ⟨ax, ay, aw, ah⟩ _) ?_; rintro e w' ⟨rfl, rfl⟩)
  have hg := heap_pushed [.cells #[.int .i64 (tw : Int), .int .i64 (th : Int), .slice (some ⟨g, 0, none⟩) L.length L.length] 24, .cells #[.int .i64 (ax : Int), .int .i64 (ay : Int), .int .i64 (aw : Int), .int .i64 (ah : Int)] 38, .cells #[.int .i64 (fw : Int), .int .i64 (fh : Int), .slice (some ⟨fb, foff, none⟩) fn fcap] 24, .cells #[.int .i64 (px : Int), .int .i64 (py : Int), .int .i64 (aw : Int), .int .i64 (ah : Int)] 38, .cells #[.int .i64 (tw : Int), .int .i64 (th : Int), .slice (some ⟨g, 0, none⟩) L.length L.length] 24, .cells #[.int .i64 (ax : Int), .int .i64 (ay : Int), .int .i64 (aw : Int), .int .i64 (ah : Int)] 38] w
  simp only [List.foldl_cons, List.foldl_nil] at hg
  have hB0 : Below w.heap.size w ((((((w.alloc (.cells #[.int .i64 (tw : Int), .int .i64 (th : Int), .slice (some ⟨g, 0, none⟩) L.length L.length] 24)).alloc (.cells #[.int .i64 (ax : Int), .int .i64 (ay : Int), .int .i64 (aw : Int), .int .i64 (ah : Int)] 38)).alloc (.cells #[.int .i64 (fw : Int), .int .i64 (fh : Int), .slice (some ⟨fb, foff, none⟩) fn fcap] 24)).alloc (.cells #[.int .i64 (px : Int), .int .i64 (py : Int), .int .i64 (aw : Int), .int .i64 (ah : Int)] 38)).alloc (.cells #[.int .i64 (tw : Int), .int .i64 (th : Int), .slice (some ⟨g, 0, none⟩) L.length L.length] 24)).alloc (.cells #[.int .i64 (ax : Int), .int .i64 (ay : Int), .int .i64 (aw : Int), .int .i64 (ah : Int)] 38)) := Below.al (Below.al (Below.al4 _ _ _ _ _) _) _
  have hsz : ((((((w.alloc (.cells #[.int .i64 (tw : Int), .int .i64 (th : Int), .slice (some ⟨g, 0, none⟩) L.length L.length] 24)).alloc (.cells #[.int .i64 (ax : Int), .int .i64 (ay : Int), .int .i64 (aw : Int), .int .i64 (ah : Int)] 38)).alloc (.cells #[.int .i64 (fw : Int), .int .i64 (fh : Int), .slice (some ⟨fb, foff, none⟩) fn fcap] 24)).alloc (.cells #[.int .i64 (px : Int), .int .i64 (py : Int), .int .i64 (aw : Int), .int .i64 (ah : Int)] 38)).alloc (.cells #[.int .i64 (tw : Int), .int .i64 (th : Int), .slice (some ⟨g, 0, none⟩) L.length L.length] 24)).alloc (.cells #[.int .i64 (ax : Int), .int .i64 (ay : Int), .int .i64 (aw : Int), .int .i64 (ah : Int)] 38)).heap.size = w.heap.size + 6 := by simp
  generalize ((((((w.alloc (.cells #[.int .i64 (tw : Int), .int .i64 (th : Int), .slice (some ⟨g, 0, none⟩) L.length L.length] 24)).alloc (.cells #[.int .i64 (ax : Int), .int .i64 (ay : Int), .int .i64 (aw : Int), .int .i64 (ah : Int)] 38)).alloc (.cells #[.int .i64 (fw : Int), .int .i64 (fh : Int), .slice (some ⟨fb, foff, none⟩) fn fcap] 24)).alloc (.cells #[.int .i64 (px : Int), .int .i64 (py : Int), .int .i64 (aw : Int), .int .i64 (ah : Int)] 38)).alloc (.cells #[.int .i64 (tw : Int), .int .i64 (th : Int), .slice (some ⟨g, 0, none⟩) L.length L.length] 24)).alloc (.cells #[.int .i64 (ax : Int), .int .i64 (ay : Int), .int .i64 (aw : Int), .int .i64 (ah : Int)] 38)) = W0 at *
  have bf : W0.heap[w.heap.size + 1 + 1]? = some (.cells #[.int .i64 (fw : Int), .int .i64 (fh : Int), .slice (some ⟨fb, foff, none⟩) fn fcap] 24) := (hg 2 _).2 rfl
  have bp : W0.heap[w.heap.size + 1 + 1 + 1]? = some (.cells #[.int .i64 (px : Int), .int .i64 (py : Int), .int .i64 (aw : Int), .int .i64 (ah : Int)] 38) := (hg 3 _).2 rfl
  have bi : W0.heap[w.heap.size + 1 + 1 + 1 + 1]? = some (.cells #[.int .i64 (tw : Int), .int .i64 (th : Int), .slice (some ⟨g, 0, none⟩) L.length L.length] 24) := (hg 4 _).2 rfl
  have br : W0.heap[w.heap.size + 1 + 1 + 1 + 1 + 1]? = some (.cells #[.int .i64 (ax : Int), .int .i64 (ay : Int), .int .i64 (aw : Int), .int .i64 (ah : Int)] 38) := (hg 5 _).2 rfl
  clear hg
  have HP0 := hL.later hB0
  have HS0 := hSr.below hB0
  have hseq := pixRows_iter (w.heap.size + 1 + 1 + 1 + 1 + 1) (w.heap.size + 1 + 1 + 1 + 1) tw th ax ay aw ah g 0 L.length L.length W0 (fun b => b = w.heap.size + 1 + 1 + 1 + 1 ∨ b = w.heap.size + 1 + 1 + 1 + 1 + 1) br bi (by omega) (fun _ => ha) (fun k hk => (Hfit.out k hk).1) hw1 hy1 (fun q hq => by omega) (.inr rfl) (.inl rfl)
  have hg0 : g < W0.heap.size := HP0.lt
  have HB0 := Lib.hid hB0
  have HS := Lib.hid HS0
  have Hbf := Lib.hid bf
  have Hbp := Lib.hid bp
  have hok := fun n (hn : n ≤ ah) => layL_ok tw ax ay aw fw px py S L hS hU n (fun k hk => Hfit.out k (by omega))
  have Hok := Lib.hid hok
  clear hok
  refine (wpIn_wide (n := 0)).1 ?_
  refine wpIn_rangeFunc_turns (gf := 57) (El := ElRow g 0 tw ax ay aw) (xs := List.range ah) (w0 := W0) ?hg ?eg hseq ?hs0 ?hRr ?hps
    (fun pre _ W => LayInv W0 g (layL tw ax ay aw fw px py S L) pre W) (fun _ _ _ _ => False) ?start (fun vs => { tmps := #[IV tw th (.slice (some ⟨g, 0, none⟩) L.length L.length), RV ⟨ax, ay, aw, ah⟩, IV fw fh (.slice (some ⟨fb, foff, none⟩) fn fcap), RV ⟨px, py, aw, ah⟩, .pointer (some ⟨w.heap.size, 0, none⟩), .pointer (some ⟨w.heap.size + 1, 0, none⟩), .pointer (some ⟨w.heap.size + 1 + 1, 0, none⟩), .pointer (some ⟨w.heap.size + 1 + 1 + 1, 0, none⟩), vs.getD 0 undef, vs.getD 1 undef, IV tw th (.slice (some ⟨g, 0, none⟩) L.length L.length), RV ⟨ax, ay, aw, ah⟩, .func (.func 57) #[] #[.pointer (some ⟨w.heap.size + 1 + 1 + 1 + 1 + 1, 0, none⟩), .pointer (some ⟨w.heap.size + 1 + 1 + 1 + 1, 0, none⟩)], vs.getD 0 undef, vs.getD 1 undef, undef, undef, undef, undef, undef, undef, undef, undef], defers := [] }) ?assign ?body ?done ?stop
  case hg => rfl
  case eg => exact enters_of Try.func57 (by kernel_rfl) rfl
  case hs0 => exact Nat.le_refl _
  case hRr => exact fun q hq => ⟨by omega, rfl⟩
  case hps =>
    intro _ _ _ _ vs h
    unfold ElRow at h
    rw [h]; rfl
  case start => exact ⟨HP0, Turns.refl _ _⟩
  case assign =>
    intro l vs W K hvs hK
    obtain ⟨v0, v1, rfl⟩ := size_two hvs
    gi_wp2
    first
      | exact hK
      | simpa using hK
      | simpa [Array.zip, Array.zipWith] using hK
  case stop => exact fun _ _ _ _ _ _ h => h.elim
  case body =>
    intro pre k rest Tp T Wq Wp W1 W2 vs hxs hI htqp hsq ht2 hTp hT hT2 hR2 hel h12 hs12 hLt hL1 hD2 hL2
    obtain ⟨hpl, hka⟩ := range_pre hxs
    have hI2 : LayInv W0 g (layL tw ax ay aw fw px py S L) pre W2 := hI.turns hg0 ht2 (fun b hb => (hTp b hb).1)
    obtain ⟨hP2, ht02⟩ := hI2
    rw [hpl] at hP2
    obtain ⟨hl2, hu2⟩ := Hok.out k (by omega)
    obtain ⟨hf1, hf2⟩ := Hfit.out k hka
    have Hsucc := Lib.hid (layL_succ tw ax ay aw fw px py S L k)
    unfold layStep at Hsucc
    obtain ⟨o, ho⟩ : ∃ o, (ay + k) * tw + ax = o := ⟨_, rfl⟩
    obtain ⟨F, hF⟩ : ∃ F, (py + k) * fw + px = F := ⟨_, rfl⟩
    obtain ⟨Lk, hLk⟩ : ∃ Lk, layL tw ax ay aw fw px py S L k = Lk := ⟨_, rfl⟩
    rw [hLk] at hP2 hl2 hu2
    rw [ho, hF, hLk] at Hsucc
    rw [ho] at hf1
    have hvs : vs = #[.int .i64 k, .slice (some ⟨g, o, none⟩) aw aw] := by
      unfold ElRow at hel
      rw [hel, Nat.zero_add, ho]
    subst hvs
    have keep : ∀ b, b < W0.heap.size → b ≠ g → W2.heap[b]? = W0.heap[b]? := fun b hb hn => ht02.block b hb hn
    have hgn : g < w.heap.size := hglt
    have c2 := (keep (w.heap.size + 1 + 1) (by omega) (by omega)).trans Hbf.out
    have c3 := (keep (w.heap.size + 1 + 1 + 1) (by omega) (by omega)).trans Hbp.out
    have m0 : W2.cell? ⟨w.heap.size + 1 + 1, 0, none⟩ = some (.int .i64 (fw : Nat)) := by simp [World.cell?, c2]
    have m1 : W2.cell? ⟨w.heap.size + 1 + 1, 1, none⟩ = some (.int .i64 (fh : Nat)) := by simp [World.cell?, c2]
    have m2 : W2.cell? ⟨w.heap.size + 1 + 1, 2, none⟩ = some (.slice (some ⟨fb, foff, none⟩) fn fcap) := by simp [World.cell?, c2]
    have r0 : W2.cell? ⟨w.heap.size + 1 + 1 + 1, 0, none⟩ = some (.int .i64 (px : Nat)) := by simp [World.cell?, c3]
    have r1 : W2.cell? ⟨w.heap.size + 1 + 1 + 1, 1, none⟩ = some (.int .i64 (py : Nat)) := by simp [World.cell?, c3]
    have r2 : W2.cell? ⟨w.heap.size + 1 + 1 + 1, 2, none⟩ = some (.int .i64 (aw : Nat)) := by simp [World.cell?, c3]
    have r3 : W2.cell? ⟨w.heap.size + 1 + 1 + 1, 3, none⟩ = some (.int .i64 (ah : Nat)) := by simp [World.cell?, c3]
    have hfb : fb < W0.heap.size := by
      rcases HS.out with ⟨h, _⟩ | ⟨b, off, h, h3, _⟩
      · cases h
      · cases h; exact h3
    have HS2 := Lib.hid (HS.out.same (W := W2) (fun a e => by cases e; exact keep fb hfb hne))
    have HP2 := Lib.hid hP2
    have Hkeep := Lib.hid (show ∀ W5 : World, Turns (fun b => b = g) W2 W5 → W2.heap.size ≤ W5.heap.size ∧ ∀ b, (b = w.heap.size + 1 + 1 + 1 + 1 ∨ b = w.heap.size + 1 + 1 + 1 + 1 + 1) ∨ T b ∨ b = W0.heap.size + 1 ∨ b = W0.heap.size → W5.heap[b]? = W2.heap[b]? from fun W5 h5 => by
      refine ⟨h5.size, fun b hb => h5.block b ?_ ?_⟩
      · rcases hb with hb | hb | hb
        · omega
        · exact (hT2 b hb).2
        · omega
      · rcases hb with hb | hb | hb
        · omega
        · have := (hT2 b hb).1; omega
        · omega)
    have Ht02 := Lib.hid ht02
    have Hf2 := Lib.hid hf2
    have HF := Lib.hid hF
    have Hpl := Lib.hid hpl
    have Hu2 := Lib.hid hu2
    have e0 : (#[.int .i64 (k : Int), .slice (some ⟨g, o, none⟩) aw aw] : Array Value).getD 0 undef = .int .i64 (k : Int) := rfl
    have e1 : (#[.int .i64 (k : Int), .slice (some ⟨g, o, none⟩) aw aw] : Array Value).getD 1 undef = .slice (some ⟨g, o, none⟩) aw aw := rfl
    rw [e0, e1]
    clear e0 e1 hI ht2 hTp hT hR2 h12 htqp bf bp bi br hseq hxs hsq hs12 hL1 hD2 hL2 hP2 ht02 hf2 hF hpl hu2 hel ho keep c2 c3 HP0 HS0 hL hSr hB0
    gi_wp2
    refine ⟨trivial, rfl, (CallsIn.inRound _ (callsIn_wide.2 (pixRow_any fw fh px py aw ah k fb foff fn fcap _ hmax ha (by have := Hf2.out; omega) hw2 (by omega)))).mono ?_⟩
    rw [HF.out]
    rintro e W3 ⟨rfl, hb3⟩
    have hP3 := HP2.out.later hb3
    have hS3 := HS2.out.below hb3
    have Hsrc := Lib.hid (src_seg hS3 F aw)
    have hcl := seg_len (S := S) (F := F) (aw := aw) (by rw [← HF.out]; exact Hf2.out)
    obtain ⟨cs, hcs⟩ : ∃ cs, (S.drop F).take aw = cs := ⟨_, rfl⟩
    have hcu : U32 cs := by rw [← hcs]; exact seg_U32 hS _ _
    rw [hcs] at Hsucc Hsrc hcl
    have Hb3 := Lib.hid hb3
    have HP3 := Lib.hid hP3
    have Hcl := Lib.hid hcl
    clear hb3 hP3 hS3 hcs hcl m0 m1 m2 r0 r1 r2 r3
    have hu : (Try.prog.info? 35).map (·.size) = some 1 := by kernel_rfl
    have hmn : cs.length = Nat.min aw aw := by rw [Hcl.out]; exact (Nat.min_self aw).symm
    have hft : o + cs.length ≤ Lk.length := by rw [Hcl.out]; omega
    have hP3' : W3.heap[g]? = some (.cells (u32s Lk) 35) := HP3.out
    have Hhu := Lib.hid hu
    have Hmn := Lib.hid hmn
    have Hft := Lib.hid hft
    have HP3' := Lib.hid hP3'
    clear hu hmn hft hP3'
    gi_wp2_with (refine wpListIn_copy_pix W3 rfl (.tmp 15) (.tmp 19) 22 rfl 35 Try.underlying22 Hhu.out g o aw aw ⟨fb, foff + F, none⟩ aw aw rfl rfl Lk cs 35 HP3'.out Hmn.out Hsrc.out Hft.out ?_)
    intro W4 hP4 ht4
    have HP4 : Pix W4 g (splice Lk o cs) := hP4
    have hl4 : (splice Lk o cs).length = L.length := by rw [splice_len (by rw [Hcl.out]; omega), hl2]
    have hu4 : U32 (splice Lk o cs) := Hu2.out.splice hcu o
    have Ht24 := Lib.hid ((Turns.of_below' (T := fun b => b = g) Hb3.out).trans ht4)
    have HP4' := Lib.hid HP4
    clear hP4 ht4 HP4
    gi_wp2
    refine ⟨trivial, rfl, (CallsIn.inRound _ (callsIn_wide.2 (turn0_any 64 cut24 g o aw aw (splice Lk o cs) _ HP4'.out (by omega) (by omega) (enters_of Try.func64 (by kernel_rfl) rfl) (fun v hv w1 => layMask_any v w1 (hu4 v hv))))).mono ?_⟩
    rintro e W5 ⟨rfl, hP5, ht5⟩
    have Ht25 := Lib.hid (Ht24.out.trans ht5)
    have HP5 := Lib.hid (show Pix W5 g (layL tw ax ay aw fw px py S L (k + 1)) by rw [Hsucc.out]; exact hP5)
    clear hP5 ht5
    gi_wp2
    exact ⟨⟨by rw [List.length_append, Hpl.out]; exact HP5.out, Ht02.out.trans Ht25.out⟩, Hkeep.out W5 Ht25.out⟩
  case done =>
    intro Tp Wq W hI htt hTp hlt hD
    have hI2 := hI.turns hg0 htt (fun b hb => hTp b hb)
    obtain ⟨hP2, ht02⟩ := hI2
    rw [List.length_range] at hP2
    have HD := Lib.hid hD
    have HP := Lib.hid hP2
    have Ht := Lib.hid (show Turns (fun b => b = g) w W from (Turns.of_below' HB0.out).trans ht02)
    clear hI htt hD hP2 ht02 bf bp bi br hseq
    dsimp only
    go_wp2
    refine ⟨by simp, .inl ⟨_, _, rfl, run_takeDeferred HD.out, ?_⟩⟩
    refine ⟨_, results_none rfl _ _ _, rfl, ?_, ?_⟩
    · exact HP.out.same (World.putObj_heap_other (by omega))
    · exact ⟨Ht.out.os, Ht.out.tape, Ht.out.output, by simpa using Ht.out.size, fun q hq hn => (World.putObj_heap_other (by omega)).trans (Ht.out.block q hq hn)⟩

end Go.Proofs.Ytajoipmchgabfaa
