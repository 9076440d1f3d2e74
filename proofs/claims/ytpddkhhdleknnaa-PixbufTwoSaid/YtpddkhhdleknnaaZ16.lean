/- pixbuf's Fill. -/
import Derived.Test.YtpddkhhdleknnaaZ15
namespace Go.Proofs.Ytpddkhhdleknnaa
open Go.RowKit

attribute [local go_sem] Oper.semAt_some

/-- Rows of one part of a picture, each pixel made c. -/
def fillL (wd px py aw : Nat) (c : Int) (L : List Int) (n : Nat) : List Int := (List.range n).foldl (fun M k => mapAt (fun _ => c) ((py + k) * wd + px) aw M) L

theorem fillL_succ (wd px py aw : Nat) (c : Int) (L : List Int) (n : Nat) : fillL wd px py aw c L (n + 1) = mapAt (fun _ => c) ((py + n) * wd + px) aw (fillL wd px py aw c L n) := by
  simp [fillL, List.range_succ]
theorem fillL_len (wd px py aw : Nat) (c : Int) (L : List Int) : ∀ n, (fillL wd px py aw c L n).length = L.length
  | 0 => rfl
  | n + 1 => by rw [fillL_succ, mapAt_len]; exact fillL_len wd px py aw c L n
theorem mapAt_U24 {f : Int → Int} {o n : Nat} {L : List Int} (h : U24 L) (hf : ∀ v, 0 ≤ f v ∧ f v < 16777216) : U24 (mapAt f o n L) := fun v hv => by
  obtain ⟨i, hi, rfl⟩ := List.getElem_of_mem hv
  rw [mapAt_len] at hi
  rw [mapAt_get f o n L i hi]
  split
  · exact hf _
  · exact h _ (List.getElem_mem _)
theorem fillL_U24 {wd px py aw : Nat} {c : Int} {L : List Int} (h : U24 L) (hc : 0 ≤ c ∧ c < 16777216) : ∀ n, U24 (fillL wd px py aw c L n)
  | 0 => h
  | n + 1 => by rw [fillL_succ]; exact mapAt_U24 (fillL_U24 h hc n) (fun _ => hc)
theorem fillL_get {wd px aw : Nat} (py : Nat) (c : Int) (L : List Int) (ha : px + aw ≤ wd) {X Y : Nat} (hX : X < wd) : ∀ n, (fillL wd px py aw c L n)[Y * wd + X]? = if (py ≤ Y ∧ Y < py + n) ∧ (px ≤ X ∧ X < px + aw) then (L[Y * wd + X]?).map (fun _ => c) else L[Y * wd + X]?
  | 0 => by rw [if_neg (by omega)]; rfl
  | n + 1 => by
    rw [fillL_succ, mapAt_get?, fillL_get py c L ha hX n]
    by_cases h1 : Y = py + n ∧ px ≤ X ∧ X < px + aw
    · rw [if_pos ((row_iff hX ha).2 h1), if_neg (by omega), if_pos (by omega)]
    · rw [if_neg (fun h => h1 ((row_iff hX ha).1 h))]
      by_cases h2 : (py ≤ Y ∧ Y < py + n) ∧ (px ≤ X ∧ X < px + aw)
      · rw [if_pos h2, if_pos (by omega)]
      · rw [if_neg h2, if_neg (by omega)]

theorem cut24_bd {v : Int} : 0 ≤ cut24 v ∧ cut24 v < 16777216 := by unfold cut24; omega

theorem fillMask_any (v c : Int) (C : Nat) (w : World) (hc : w.cell? ⟨C, 0, none⟩ = some (.int .u32 c)) (hb : 0 ≤ c ∧ c < 4294967296) :
    Calls Try.prog 85 #[.int .u32 v, .pointer (some ⟨C, 0, none⟩)] w fun e w' => e = .returned (.int .u32 (cut24 c)) ∧ w' = w := by
  have h1 := mask24 c hb
  go_enter Try.func85, Try.ntmps85
  go_wp2
  go_ret
  exact ⟨rfl, rfl⟩

set_option maxHeartbeats 1000000 in
theorem turn1_any (gm : Nat) (q : Value) (f : Int → Int) (g o n cap : Nat) (L : List Int) (w : World) (hL : Pix w g L) (hfit : o + n ≤ L.length) (hlen : L.length ≤ 1048576) (hF : Enters Try.prog gm) (hg : ∀ v ∈ L, ∀ w1, Turns (fun b => b = g) w w1 → Calls Try.prog gm #[.int .u32 v, q] w1 fun e w2 => e = .returned (.int .u32 (f v)) ∧ w2 = w1) :
    Calls Try.prog 84 #[.slice (some ⟨g, o, none⟩) n cap, .func (.func gm) #[] #[q]] w fun e w' => e = .returned (.tuple #[]) ∧ Pix w' g (mapAt f o n L) ∧ Turns (fun b => b = g) w w' := by
  unfold Enters at hF
  have Hg := Lib.hid hg
  clear hg
  go_enter Try.func84, Try.ntmps84
  go_wp2
  go_loopw [8] (fun i wr => ∃ k : Nat, k ≤ n ∧ i = .int .i64 k ∧ Pix wr g (mapAt f o k L) ∧ Turns (fun b => b = g) w wr) (fun i _ => n - (intOf i).toNat)
  case atStart => exact ⟨0, by omega, rfl, by rw [mapAt_zero]; exact hL, Turns.refl _ _⟩
  case round =>
    obtain ⟨k, hk, rfl, hP, ht⟩ := hrel
    by_cases hlt : k < n
    · have hi : o + k < L.length := by omega
      have hget : (mapAt f o k L)[o + k]'(by rw [mapAt_len]; exact hi) = L[o + k] := by rw [mapAt_get _ _ _ _ _ hi, if_neg (by omega)]
      have c0 := hP.cell (i := o + k) (by rw [mapAt_len]; exact hi)
      rw [hget] at c0
      have f0 := hP.free (o + k)
      have Hn := Lib.hid (show Pix (wr.setCell ⟨g, o + k, none⟩ (.int .u32 (f L[o + k]))) g (mapAt f o (k + 1) L) from by
        rw [← mapAt_succ _ _ _ _ hi]; exact hP.set _ _)
      have Ht := Lib.hid (show Turns (fun b => b = g) w (wr.setCell ⟨g, o + k, none⟩ (.int .u32 (f L[o + k]))) from ht.set (p := ⟨g, o + k, none⟩) rfl _)
      have Hc := Lib.hid (Hg.out L[o + k] (List.getElem_mem hi) wr ht)
      clear hget hP ht hL
      generalize L[o + k] = v at *
      go_wp2_with fail
      refine Calls.mono Hc.out ?_
      rintro e w1 ⟨rfl, rfl⟩
      go_wp2
      go_roundw
      case rel => exact ⟨k + 1, by omega, by go_num, Hn.out, Ht.out⟩
      case measure => simp [intOf]; omega
    · obtain rfl : k = n := by omega
      go_wp2
      go_end0
      exact ⟨rfl, hP, ht⟩

set_option maxRecDepth 100000 in
set_option maxHeartbeats 2000000 in
/-- Fill, where the part that it has in common with the picture is known. -/
theorem fill_box (B wd ht g px py aw ah : Nat) (c : Int) (r : Rc) (L : List Int) (w : World) (h : BufAt w B wd ht g L) (hBg : B ≠ g) (hf : Fit r) (hc : 0 ≤ c ∧ c < 4294967296) (hR : andR r ⟨0, 0, (wd : Int), (ht : Int)⟩ = ⟨px, py, aw, ah⟩) (ha : 0 < ah → 0 < aw) (h1 : px + aw ≤ wd) (h2 : py + ah ≤ ht) :
    Calls Try.prog 37 #[.pointer (some ⟨B, 0, none⟩), RV r, .int .u32 c] w fun e w' => e = .returned (.tuple #[]) ∧ BufAt w' B wd ht g (fillL wd px py aw (cut24 c) L ah) ∧ Turns (fun b => b = g) w w' := by
  have hfit := h.fit h1 h2
  have hlen := h.len
  have hwd := h.wd1
  have hht := h.ht1
  have hfw : Fit ⟨0, 0, (wd : Int), (ht : Int)⟩ := ⟨show (0 : Int) ≤ 9223372036854775807 by decide, show (0 : Int) ≤ 9223372036854775807 by decide⟩
  have hgB := heap_pushed [.cells #[.int .i64 r.x, .int .i64 r.y, .int .i64 r.a, .int .i64 r.b] 30, .cells #[.int .u32 c] 49] w
  simp only [List.foldl_cons, List.foldl_nil] at hgB
  have hal := Below.al2 w (.cells #[.int .i64 r.x, .int .i64 r.y, .int .i64 r.a, .int .i64 r.b] 30) (.cells #[.int .u32 c] 49)
  have bc : ((w.alloc (.cells #[.int .i64 r.x, .int .i64 r.y, .int .i64 r.a, .int .i64 r.b] 30)).alloc (.cells #[.int .u32 c] 49)).heap[w.heap.size + 1]? = some (.cells #[.int .u32 c] 49) := (hgB 1 _).2 rfl
  have lr : Lies ((w.alloc (.cells #[.int .i64 r.x, .int .i64 r.y, .int .i64 r.a, .int .i64 r.b] 30)).alloc (.cells #[.int .u32 c] 49)) w.heap.size r := (Lies.new rfl).later (Below.al1 _ _)
  have h0 := h.later hal
  have Hal := Lib.hid hal
  have Hbc := Lib.hid bc
  have H0 := Lib.hid h0
  have Hfit := Lib.hid hfit
  have hglt := h.pix.lt
  have hBlt := h.lt
  clear hgB hal h bc hfit
  refine (callsIn_wide (n := 0)).1 ?_
  refine callsIn_of_wp_marks Try.func37 rfl trivial ?_ rfl
  simp only [Try.ntmps37, List.size_toArray, List.length_cons, List.length_nil, Nat.reduceAdd, Nat.reduceSub, Array.replicate_succ, Array.replicate_zero, List.push_toArray, List.append_toArray, List.nil_append, List.cons_append]
  refine wpIn_wide.2 ?_
  go_upto_region 2 with (fail)
  generalize ((w.alloc (.cells #[.int .i64 r.x, .int .i64 r.y, .int .i64 r.a, .int .i64 r.b] 30)).alloc (.cells #[.int .u32 c] 49)) = W at *
  have hne := After.ne W
  obtain ⟨l0, l1, l2, l3⟩ := lr.rules
  have k0 := After.rule h0.three.1
  have k1 := After.rule h0.three.2.1
  have k2 := After.rule h0.three.2.2
  clear lr h0
  refine wp_region_head 11 (by kernel_rfl) (by kernel_rfl) (by kernel_rfl) ?_
  repeat (refine Lq_step (fun K hK => ?_); go_simp; first | (refine hK _ ?_; clear hK K) | (apply Exists.intro; refine ⟨fun n => ?_, hK _ ?_⟩; (first | (go_at_call 81; exact whole_any _ _ _ _) | (go_at_call 83; exact and_eq r ⟨0, 0, (wd : Int), (ht : Int)⟩ _ hR hf hfw)); clear hK K))
  refine Lq_nil ?_
  intro w2 hb2
  clear k0 k1 k2 l0 l1 l2 l3 hne
  have h2' := H0.out.later hb2
  have hs2 := h2'.size
  obtain ⟨wa, wb, hbB, hpix, hu⟩ : ∃ (_ : w2.heap.size = w2.heap.size) (_ : True), BufAt w2 B wd ht g L ∧ Pix w2 g L ∧ U24 L := ⟨rfl, trivial, h2', h2'.pix, h2'.u⟩
  clear wa wb
  have bc2 := (hb2.block (w.heap.size + 1) (Array.getElem?_eq_some_iff.1 Hbc.out).1).trans Hbc.out
  have Hb02 := Lib.hid (Hal.out.trans (hb2.mono Hal.out.size))
  have hsz2 := Hb02.out.size
  have hbc2 : w.heap.size + 1 < w2.heap.size := (Array.getElem?_eq_some_iff.1 bc2).1
  clear hb2 h2' hs2 Hbc H0
  go_wp2_with fail
  refine Calls.mono (pixRows_made wd ht (.slice (some ⟨g, 0, none⟩) L.length L.length) ⟨px, py, aw, ah⟩ _) ?_
  rintro e w' ⟨rfl, rfl⟩
  go_wp2_with fail
  have hg := heap_pushed [.cells #[.int .i64 (wd : Int), .int .i64 (ht : Int), .slice (some ⟨g, 0, none⟩) L.length L.length] 39, .cells #[.int .i64 (px : Int), .int .i64 (py : Int), .int .i64 (aw : Int), .int .i64 (ah : Int)] 30] w2
  simp only [List.foldl_cons, List.foldl_nil] at hg
  have hB0 := Below.al2 w2 (.cells #[.int .i64 (wd : Int), .int .i64 (ht : Int), .slice (some ⟨g, 0, none⟩) L.length L.length] 39) (.cells #[.int .i64 (px : Int), .int .i64 (py : Int), .int .i64 (aw : Int), .int .i64 (ah : Int)] 30)
  have hsz : ((w2.alloc (.cells #[.int .i64 (wd : Int), .int .i64 (ht : Int), .slice (some ⟨g, 0, none⟩) L.length L.length] 39)).alloc (.cells #[.int .i64 (px : Int), .int .i64 (py : Int), .int .i64 (aw : Int), .int .i64 (ah : Int)] 30)).heap.size = w2.heap.size + 2 := by simp
  generalize ((w2.alloc (.cells #[.int .i64 (wd : Int), .int .i64 (ht : Int), .slice (some ⟨g, 0, none⟩) L.length L.length] 39)).alloc (.cells #[.int .i64 (px : Int), .int .i64 (py : Int), .int .i64 (aw : Int), .int .i64 (ah : Int)] 30)) = W0 at *
  have bi : W0.heap[w2.heap.size]? = some (.cells #[.int .i64 (wd : Int), .int .i64 (ht : Int), .slice (some ⟨g, 0, none⟩) L.length L.length] 39) := (hg 0 _).2 rfl
  have br : W0.heap[w2.heap.size + 1]? = some (.cells #[.int .i64 (px : Int), .int .i64 (py : Int), .int .i64 (aw : Int), .int .i64 (ah : Int)] 30) := (hg 1 _).2 rfl
  clear hg
  have hBf0 := hbB.later hB0
  have HP0 := hpix.later hB0
  have hgw2 := hpix.lt
  have hBw2 := hbB.lt
  have bc0 := (hB0.block (w.heap.size + 1) hbc2).trans bc2
  have hseq := pixRows_iter (w2.heap.size + 1) w2.heap.size wd ht px py aw ah g 0 L.length L.length W0 (fun b => b = w2.heap.size ∨ b = w2.heap.size + 1) br bi (by omega) ha (fun k hk => Hfit.out k hk) (by omega) (by omega) (fun q hq => by omega) (.inr rfl) (.inl rfl)
  have hg0 : g < W0.heap.size := HP0.lt
  have HB0 := Lib.hid hB0
  have HBf0 := Lib.hid hBf0
  have Hbc0 := Lib.hid bc0
  have Hu := Lib.hid hu
  have HP := Lib.hid HP0
  have Hsz := Lib.hid hsz
  have hsz' : w2.heap.size + 1 < W0.heap.size := by omega
  clear hbB hpix bc2 bc0 hu hB0 hBf0 hsz
  refine (wpIn_wide (n := 0)).1 ?_
  refine wpIn_rangeFunc_turns (gf := 115) (El := ElRow g 0 wd px py aw) (xs := List.range ah) (w0 := W0) ?hg ?eg hseq ?hs0 ?hRr ?hps
    (fun pre _ W => LayInv W0 g (fillL wd px py aw (cut24 c) L) pre W) (fun _ _ _ _ => False) ?start (fun vs => { tmps := #[.pointer (some ⟨B, 0, none⟩), RV r, .int .u32 c, undef, .pointer (some ⟨w.heap.size, 0, none⟩), .pointer (some ⟨w.heap.size + 1, 0, none⟩), undef, vs.getD 1 undef, .pointer (some ⟨B, 0, none⟩), .bool false, .pointer (some ⟨B, 0, none⟩), .pointer (some ⟨B, 0, none⟩), .pointer (some ⟨B, 0, none⟩), IV wd ht (.slice (some ⟨g, 0, none⟩) L.length L.length), RV r, .pointer (some ⟨B, 0, none⟩), .pointer (some ⟨B, 0, none⟩), .pointer (some ⟨B, 0, none⟩), IV wd ht (.slice (some ⟨g, 0, none⟩) L.length L.length), RV ⟨0, 0, wd, ht⟩, RV ⟨px, py, aw, ah⟩, .func (.func 115) #[] #[.pointer (some ⟨w2.heap.size + 1, 0, none⟩), .pointer (some ⟨w2.heap.size, 0, none⟩)], vs.getD 0 undef, vs.getD 1 undef, undef, undef, undef], defers := [] }) ?assign ?body ?done ?stop
  case hg => rfl
  case eg => exact enters_of Try.func115 (by kernel_rfl) rfl
  case hs0 => exact Nat.le_refl _
  case hRr => exact fun q hq => ⟨by omega, rfl⟩
  case hps =>
    intro _ _ _ _ vs h
    unfold ElRow at h
    rw [h]; rfl
  case start => exact ⟨HP0, Turns.refl _ _⟩
  case assign =>
    intro l vs W K hvs hK
    obtain ⟨v0, v1, rfl⟩ := size_two hvs
    gi_wp2
    first
      | exact hK
      | simpa using hK
      | simpa [Array.zip, Array.zipWith] using hK
  case stop => exact fun _ _ _ _ _ _ h => h.elim
  case body =>
    intro pre k rest Tp T Wq Wp W1 W2 vs hxs hI htqp hsq ht2 hTp hT hT2 hR2 hel h12 hs12 hLt hL1 hD2 hL2
    obtain ⟨hpl, hka⟩ := range_pre hxs
    have hI2 : LayInv W0 g (fillL wd px py aw (cut24 c) L) pre W2 := hI.turns hg0 ht2 (fun b hb => (hTp b hb).1)
    obtain ⟨hP2, ht02⟩ := hI2
    rw [hpl] at hP2
    have hf1 := Hfit.out k hka
    have Hsucc := Lib.hid (fillL_succ wd px py aw (cut24 c) L k)
    have hl2 := fillL_len wd px py aw (cut24 c) L k
    obtain ⟨o, ho⟩ : ∃ o, (py + k) * wd + px = o := ⟨_, rfl⟩
    obtain ⟨Lk, hLk⟩ : ∃ Lk, fillL wd px py aw (cut24 c) L k = Lk := ⟨_, rfl⟩
    rw [hLk] at hP2 hl2
    rw [ho, hLk] at Hsucc
    rw [ho] at hf1
    have hvs : vs = #[.int .i64 k, .slice (some ⟨g, o, none⟩) aw aw] := by
      unfold ElRow at hel
      rw [hel, Nat.zero_add, ho]
    subst hvs
    have keep : ∀ b, b < W0.heap.size → b ≠ g → W2.heap[b]? = W0.heap[b]? := fun b hb hn => ht02.block b hb hn
    have hc2 := (keep (w.heap.size + 1) (by omega) (by omega)).trans Hbc0.out
    have Hc2 := Lib.hid hc2
    have HP2 := Lib.hid hP2
    have Hkeep := Lib.hid (show ∀ W5 : World, Turns (fun b => b = g) W2 W5 → W2.heap.size ≤ W5.heap.size ∧ ∀ b, (b = w2.heap.size ∨ b = w2.heap.size + 1) ∨ T b ∨ b = W0.heap.size + 1 ∨ b = W0.heap.size → W5.heap[b]? = W2.heap[b]? from fun W5 h5 => by
      refine ⟨h5.size, fun b hb => h5.block b ?_ ?_⟩
      · rcases hb with hb | hb | hb
        · omega
        · exact (hT2 b hb).2
        · omega
      · rcases hb with hb | hb | hb
        · omega
        · have := (hT2 b hb).1; omega
        · omega)
    have Ht02 := Lib.hid ht02
    have Hpl := Lib.hid hpl
    have e0 : (#[.int .i64 (k : Int), .slice (some ⟨g, o, none⟩) aw aw] : Array Value).getD 0 undef = .int .i64 (k : Int) := rfl
    have e1 : (#[.int .i64 (k : Int), .slice (some ⟨g, o, none⟩) aw aw] : Array Value).getD 1 undef = .slice (some ⟨g, o, none⟩) aw aw := rfl
    rw [e0, e1]
    have hmf : ∀ (fn : Fn) (first cap : Array Value) (w : World), (Instr.makeFunc fn first cap).run Try.prog w = .ok (.func fn first cap) w := fun _ _ _ _ => rfl
    clear e0 e1 hI ht2 hTp hT hR2 h12 htqp bi br hseq hxs hsq hs12 hL1 hD2 hL2 hP2 ht02 hpl hel ho keep hc2 HP0
    gi_wp2
    refine ⟨trivial, rfl, (CallsIn.inRound _ (callsIn_wide.2 (turn1_any 85 (.pointer (some ⟨w.heap.size + 1, 0, none⟩)) (fun _ => cut24 c) g o aw aw Lk _ HP2.out (by omega) (by omega) (enters_of Try.func85 (by kernel_rfl) rfl) (fun v hv w1 hw1 => fillMask_any v c _ w1 (by have h9 := (hw1.block (w.heap.size + 1) (Array.getElem?_eq_some_iff.1 Hc2.out).1 (by omega)).trans Hc2.out; simp [World.cell?, h9]) hc)))).mono ?_⟩
    rintro e W5 ⟨rfl, hP5, ht5⟩
    have Ht25 := Lib.hid ht5
    have HP5 := Lib.hid (show Pix W5 g (fillL wd px py aw (cut24 c) L (k + 1)) by rw [Hsucc.out]; exact hP5)
    clear hP5 ht5
    gi_wp2
    exact ⟨⟨by rw [List.length_append, Hpl.out]; exact HP5.out, Ht02.out.trans Ht25.out⟩, Hkeep.out W5 Ht25.out⟩
  case done =>
    intro Tp Wq W hI htt hTp hlt hD
    have hI2 := hI.turns hg0 htt (fun b hb => hTp b hb)
    obtain ⟨hP2, ht02⟩ := hI2
    rw [List.length_range] at hP2
    have HD := Lib.hid hD
    have HP9 := Lib.hid hP2
    have Ht9 := Lib.hid (show Turns (fun b => b = g) w W from (Turns.of_below' (Hb02.out.trans (HB0.out.mono Hb02.out.size))).trans ht02)
    have Ht02 := Lib.hid ht02
    clear hI htt hD hP2 ht02 bi br hseq
    dsimp only
    go_wp2
    refine ⟨by simp, .inl ⟨_, _, rfl, run_takeDeferred HD.out, ?_⟩⟩
    refine ⟨_, results_none rfl _ _ _, rfl, ?_, ?_⟩
    · have hB9 := HBf0.out
      have hBne : B ≠ w2.heap.size := by omega
      refine ⟨(World.putObj_heap_other (by omega)).trans ((Ht02.out.block B (by omega) hBg).trans ?_), HP9.out.same (World.putObj_heap_other (by omega)), by rw [fillL_len]; exact hB9.size, hwd, hht, fillL_U24 Hu.out cut24_bd ah⟩
      rw [fillL_len]
      exact hB9.cells
    · exact ⟨Ht9.out.os, Ht9.out.tape, Ht9.out.output, by simpa using Ht9.out.size, fun q hq hn => (World.putObj_heap_other (by omega)).trans (Ht9.out.block q hq hn)⟩

end Go.Proofs.Ytpddkhhdleknnaa
