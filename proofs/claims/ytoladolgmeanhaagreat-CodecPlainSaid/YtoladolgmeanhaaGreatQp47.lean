/- Several texts in one, each with its own head. -/
import Derived.Test.YtoladolgmeanhaaGreatQp44
import Derived.Test.YtoladolgmeanhaaGreatQp43
import Derived.Test.YtoladolgmeanhaaGreatQp46
import Derived.Test.YtoladolgmeanhaaGreatQp37
import Derived.Laws.Tables
import Derived.Test.YtoladolgmeanhaaGreatQp17
import Derived.BigQuiet
import Derived.BigRegion
/- codec: the document's May, Plain, Same; cut. -/
namespace Go.Proofs.YtoladolgmeanhaaGreat
open Go.RowKit

attribute [local go_sem] Oper.semAt_some

set_option maxRecDepth 20000 in
set_option maxHeartbeats 4000000 in
theorem refPlain_any (p : Option Addr) (c : Nat) (l : List Nat) (w : World) (hp : RowAt encP 1 w p l) (hl : l.length ≤ 1048576) :
    Calls Tryz.prog 12 #[.slice p l.length c] w fun e w' => ∃ v', e = .returned v' ∧ w'.ownsRow w.heap.size 5 1 v' (cdP l).length ((cdP l).map u8v) ∧ Below w.heap.size w w' := by
  have H := rcut_any p c l w hp hl
  obtain ⟨i0, hi0, hz0, hz1, hz2⟩ := info_parts u8_info
  have hlow : ∀ i, (l.map rlw).getD i 0 < 16777216 := fun i => by
    rw [List.getD_eq_getElem?_getD, List.getElem?_map]
    cases l[i]? with
    | none => decide
    | some x => exact rlw_lt x
  have Hlow := Lib.hid hlow
  have hlen : (l.map rlw).length = l.length := List.length_map _
  rw [← cdP_map]
  have hll : ∀ x ∈ l.map rlw, rlw x = x := fun x hx => by
    obtain ⟨y, -, rfl⟩ := List.mem_map.1 hx
    exact rlw_rlw y
  obtain ⟨L, hL⟩ : ∃ L, l.map rlw = L := ⟨_, rfl⟩
  rw [hL] at H Hlow hlen hll ⊢
  obtain ⟨n, hn⟩ : ∃ n, l.length = n := ⟨_, rfl⟩
  rw [hn] at H hlen hl ⊢
  have Hn := Lib.hid hlen
  have Htk := Lib.hid fun (i : Nat) (h : i < L.length) => cdP_take L h
  have Hll := Lib.hid hll
  rw [hlen] at H
  clear hp hL hn hlow hlen hll
  go_enter Tryz.func12, Tryz.ntmps12
  go_wp2_with fail
  refine Calls.mono H ?_
  rintro _ w1 ⟨v1, rfl, ho1, hb1⟩
  have hr1 := own_rowP ho1
  obtain ⟨p1, c1, rfl⟩ := owns_slice ho1
  have Hr1 := Lib.hid hr1.at'.1
  have Hb1 := Lib.hid hb1
  clear ho1 hr1 hb1 H
  go_wp2_with fail
  go_loopw [4, 5] (fun ov iv wr => ∃ (i : Nat) (o : List Nat), iv = .int .i64 (i : Int) ∧ i ≤ n ∧ o.length ≤ 3 * i ∧ Hid (o = cdP (L.take i)) ∧ Hid (wr.ownsRow w1.heap.size 5 1 ov o.length (o.map u8v)) ∧ Hid (Below w1.heap.size w1 wr)) (fun _ iv _ => n - (intOf iv).toNat)
  case atStart => exact ⟨0, [], rfl, Nat.zero_le _, by simp, Lib.hid rfl, Lib.hid (World.ownsRow_nil _ _ _ _), Lib.hid (Below.refl _ _)⟩
  case round =>
    obtain ⟨i, o, rfl, hi, hol, HE, HO, HB⟩ := hrel
    obtain ⟨vp, vc, rfl⟩ := owns_slice HO.out
    by_cases hin : i < n
    · have d1 : decide ((i : Int) < (n : Int)) = true := by simp; omega
      have hin' : i < L.length := by rw [Hn.out]; exact hin
      obtain ⟨g, off, rfl, hc⟩ := Hr1.out.pxs (by rw [Hn.out]; omega)
      have x0 := cell_later HB.out (hc i hin')
      have Hs := Lib.hid (Htk.out i hin')
      have hxb := Hlow.out i
      have hxr : rlw (L.getD i 0) = L.getD i 0 := Nat.mod_eq_of_lt hxb
      rw [hxr] at Hs
      obtain ⟨x, hx⟩ : ∃ x, L.getD i 0 = x := ⟨_, rfl⟩
      rw [hx] at x0 Hs hxb
      obtain ⟨a2, ha2⟩ : ∃ a, x / 65536 = a := ⟨_, rfl⟩
      obtain ⟨b3, hb3⟩ : ∃ a, x / 256 = a := ⟨_, rfl⟩
      obtain ⟨a3, ha3⟩ : ∃ a, b3 % 256 = a := ⟨_, rfl⟩
      obtain ⟨a4, ha4⟩ : ∃ a, x % 256 = a := ⟨_, rfl⟩
      have e2 : (x : Int) / 65536 = (a2 : Int) := by omega
      have e3 : (x : Int) / 256 = (b3 : Int) := by omega
      have e3' : (b3 : Int) % 256 = (a3 : Int) := by omega
      have e4 : (x : Int) % 256 = (a4 : Int) := by omega
      have l2 : a2 ≤ 255 := by omega
      have l3 : a3 ≤ 255 := by omega
      have l4 : a4 ≤ 255 := by omega
      have Hb : Hid (plB x = [a2, a3, a4]) := Lib.hid (by show [x / 65536, x / 256 % 256, x % 256] = _; rw [ha2, hb3, ha3, ha4])
      have wu : ∀ a : Nat, a ≤ 255 → IntKind.u8.wrap (a : Int) = (a : Int) := fun a h => by rw [IntKind.wrap_u8]; omega
      have ww2 : IntKind.u32.wrap (a2 : Int) = (a2 : Int) := by rw [IntKind.wrap_u32]; omega
      have ww3 : IntKind.u32.wrap (b3 : Int) = (b3 : Int) := by rw [IntKind.wrap_u32]; omega
      have ww5 := wu a2 l2
      have ww6 := wu a3 l3
      have ww7 := wu a4 l4
      have t3 : Int.tmod (b3 : Int) 256 = (a3 : Int) := by rw [Int.tmod_eq_emod_of_nonneg (by omega)]; exact e3'
      have t4 : Int.tmod (x : Int) 256 = (a4 : Int) := by rw [Int.tmod_eq_emod_of_nonneg (by omega)]; exact e4
      have hs0 : w1.heap.size ≤ wr.heap.size := HB.out.size
      have j0 : (0 : Int) ≤ (i : Int) := by omega
      have j1 : (i : Int) < (n : Int) := by omega
      clear ha2 ha3 ha4 hb3 wu hx hc hxr
      go_upto_region 6 with (fail)
      have q1 := cell_later (Below.al1 wr (.cells #[.int .u8 (a2 : Int), .int .u8 (a3 : Int), .int .u8 (a4 : Int)] 5)) x0
      go_region_law (refine step_append_lies _ (by rfl) (.tmp 14) (.tmp 34) 25 (by rfl) w1.heap.size 5 i0 _ 1 1 Tryz.underlying25 hi0 hz0 hz1 hz2 rfl (by decide) (.slice vp o.length vc) o.length (o.map u8v) (by rfl) (owns_drewR (HO.out.alloc _)) _ 3 3 [.int .u8 (a2 : Int), .int .u8 (a3 : Int), .int .u8 (a4 : Int)] (by rfl) rfl (fun j u hu => news_drewR _ _ [.int .u8 (a2 : Int), .int .u8 (a3 : Int), .int .u8 (a4 : Int)] j u hu) (one8 [a2, a3, a4]) (by decide) (by simp only [maxLen]; omega) (by omega) (by simp; omega) (wr.heap.size + 1) (by simp) ?_; intro g5 cap5 w9 hown5 hgr5 hpl5 hlt5)
      all_goals
        have Ho5 : Hid (w9.ownsRow w1.heap.size 5 1 (.slice (some ⟨g5, 0, none⟩) (o.length + 3) cap5) (o ++ plB x).length ((o ++ plB x).map u8v)) := Lib.hid (by
          rw [Hb.out, List.length_append, List.map_append]; exact hown5)
        have hT : Turns (fun i => (Value.slice vp o.length vc).ownBlock = some i) wr w9 := (Turns.of_below' (Below.drew (Below.al1 wr _))).trans (Turns.of_grown hgr5 (fun _ h => h))
        have HB5 : Hid (Below w1.heap.size w1 w9) := Lib.hid (HB.out.trans (hT.below HB.out.size (fun i hi => (HO.out.lt i hi).1)))
        have hlen5 : (o ++ plB x).length ≤ 3 * (i + 1) := by rw [Hb.out, List.length_append]; simp only [List.length_cons, List.length_nil]; omega
        have HE5 : Hid (o ++ plB x = cdP (L.take (i + 1))) := Lib.hid (by rw [Hs.out, HE.out])
        clear hown5 hgr5 hpl5 hlt5 hT q1 x0 e2 e3 e3' e4 ww2 ww3 ww5 ww6 ww7 t3 t4
        go_wp2
        go_roundw
        case rel => exact ⟨i + 1, _, by go_num, by omega, hlen5, HE5, Ho5, HB5⟩
        case measure => simp [intOf]; omega
    · obtain rfl : i = n := by omega
      have d1 : decide ((i : Int) < (i : Int)) = false := by simp
      have HX : Hid (o = cdP L) := Lib.hid (by rw [HE.out, List.take_of_length_le (by rw [Hn.out]; exact Nat.le_refl _)])
      go_wp2
      go_ret
      refine ⟨_, rfl, ?_, Below.thn Hb1.out HB.out⟩
      rw [← HX.out]
      exact owns_base HO.out Hb1.out.size
set_option maxRecDepth 20000 in
set_option maxHeartbeats 4000000 in
theorem refMay_any (wd ht : Int) (p : Option Addr) (n c : Nat) (w : World) (f : Bool) (hf : decide (cdM wd ht n) = f) :
    Makes Tryz.prog 18 #[.agg #[.int .i64 wd, .int .i64 ht, .slice p n c]] w (.bool f) := by
  unfold Makes
  have Hf := Lib.hid hf
  have hb := Below.al1 w (.cells #[.int .i64 wd, .int .i64 ht, .slice p n c] 24)
  have Hb := Lib.hid hb
  clear hb hf
  go_enter Tryz.func18, Tryz.ntmps18
  by_cases h1 : 1 ≤ wd
  case neg =>
    have d1 : decide (wd ≥ 1) = false := by simpa using h1
    obtain rfl : f = false := by rw [← Hf.out]; exact decide_eq_false fun h => h1 h.1
    go_wp2
    go_ret
    exact ⟨rfl, Hb.out⟩
  have d1 : decide (wd ≥ 1) = true := by simpa using h1
  by_cases h2 : 1 ≤ ht
  case neg =>
    have d2 : decide (ht ≥ 1) = false := by simpa using h2
    obtain rfl : f = false := by rw [← Hf.out]; exact decide_eq_false fun h => h2 h.2.1
    go_wp2
    go_ret
    exact ⟨rfl, Hb.out⟩
  have d2 : decide (ht ≥ 1) = true := by simpa using h2
  by_cases h3 : wd ≤ 256
  case neg =>
    have d3 : decide (wd ≤ 256) = false := by simpa using h3
    obtain rfl : f = false := by rw [← Hf.out]; exact decide_eq_false fun h => h3 h.2.2.1
    go_wp2
    go_ret
    exact ⟨rfl, Hb.out⟩
  have d3 : decide (wd ≤ 256) = true := by simpa using h3
  by_cases h4 : ht ≤ 256
  case neg =>
    have d4 : decide (ht ≤ 256) = false := by simpa using h4
    obtain rfl : f = false := by rw [← Hf.out]; exact decide_eq_false fun h => h4 h.2.2.2.1
    go_wp2
    go_ret
    exact ⟨rfl, Hb.out⟩
  have d4 : decide (ht ≤ 256) = true := by simpa using h4
  obtain ⟨q, hq, hq1, hq2⟩ := cd_area ⟨h1, h2, h3, h4⟩
  have Hh := Lib.hid (show 1 ≤ wd ∧ 1 ≤ ht ∧ wd ≤ 256 ∧ ht ≤ 256 from ⟨h1, h2, h3, h4⟩)
  have Hq := Lib.hid hq
  have hwm : IntKind.i64.wrap (wd * ht) = (q : Int) := by rw [hq]; exact IntWalk.i64_in _ (by omega)
  clear h1 h2 h3 h4
  have hd : ((n : Int) == (q : Int)) = f := by
    rw [← Hf.out]
    by_cases h : n = q
    · subst h
      rw [decide_eq_true (show cdM wd ht n from ⟨Hh.out.1, Hh.out.2.1, Hh.out.2.2.1, Hh.out.2.2.2, hq.symm⟩)]
      simp
    · rw [decide_eq_false fun hm => h (by have := hm.2.2.2.2; rw [hq] at this; omega)]
      simp; omega
  go_wp2
  go_ret
  exact ⟨by rw [← hd]; rfl, Hb.out⟩
end Go.Proofs.YtoladolgmeanhaaGreat

/- codec: the document's Same; cut. -/
namespace Go.Proofs.YtoladolgmeanhaaGreat
open Go.RowKit

attribute [local go_sem] Oper.semAt_some

theorem results_ci {fn : Func} {p : Tmp} {tmps : Array Value} {w : World} {B : Nat} {wd ht : Int} {v : Value} (h : fn.results = #[.cell p 24]) (hp : tmps.getD p undef = .pointer (some ⟨B, 0, none⟩))
    (c0 : w.cell? ⟨B, 0, none⟩ = some (.int .i64 wd)) (c1 : w.cell? ⟨B, 1, none⟩ = some (.int .i64 ht)) (c2 : w.cell? ⟨B, 2, none⟩ = some v) (hv : ∃ a n c, v = .slice a n c) : (results fn tmps).run Tryz.prog w = .ok (ImgV wd ht v) w := by
  obtain ⟨a, n, c, rfl⟩ := hv
  have hp' : tmps[p]?.getD undef = .pointer (some ⟨B, 0, none⟩) := by simpa using hp
  simp [results, h, hp', go_sem, c0, c1, c2, ImgV]
set_option maxRecDepth 20000 in
set_option maxHeartbeats 4000000 in
theorem csame_any (wa ha wb hb : Int) (p q : Option Addr) (c d : Nat) (a b : List Nat) (w : World) (hp : RowAt encP 1 w p a) (hq : RowAt encP 1 w q b) (la : a.length ≤ 1048576) (lb : b.length ≤ 1048576) (r : Bool) (hr : decide (wa = wb ∧ ha = hb ∧ a = b) = r) :
    Makes Tryz.prog 14 #[.agg #[.int .i64 wa, .int .i64 ha, .slice p a.length c], .agg #[.int .i64 wb, .int .i64 hb, .slice q b.length d]] w (.bool r) := by
  unfold Makes
  have Hr := Lib.hid hr
  have h2 := Below.al2 w (.cells #[.int .i64 wa, .int .i64 ha, .slice p a.length c] 24) (.cells #[.int .i64 wb, .int .i64 hb, .slice q b.length d] 24)
  have H := rsame_any p q c d a b _ (hp.below h2) (hq.below h2) la lb
  have hg := heap_pushed [.cells #[.int .i64 wa, .int .i64 ha, .slice p a.length c] 24, .cells #[.int .i64 wb, .int .i64 hb, .slice q b.length d] 24] w
  simp only [List.foldl_cons, List.foldl_nil] at hg
  obtain ⟨n, hn⟩ : ∃ n, a.length = n := ⟨_, rfl⟩
  obtain ⟨m, hm⟩ : ∃ n, b.length = n := ⟨_, rfl⟩
  rw [hn, hm] at H h2 hg ⊢
  clear hp hq hn hm la lb hr
  go_enter Tryz.func14, Tryz.ntmps14
  go_upto_region 1 with (fail)
  generalize (w.alloc (.cells #[.int .i64 wa, .int .i64 ha, .slice p n c] 24)).alloc (.cells #[.int .i64 wb, .int .i64 hb, .slice q m d] 24) = W at *
  have g0 := (hg 0 _).2 rfl
  have g1 := (hg 1 _).2 rfl
  rw [Nat.add_zero] at g0
  have c0 : W.cell? ⟨w.heap.size, 0, none⟩ = some (.int .i64 wa) := cell_heap g0 rfl
  have c1 : W.cell? ⟨w.heap.size, 1, none⟩ = some (.int .i64 ha) := cell_heap g0 rfl
  have c2 : W.cell? ⟨w.heap.size, 2, none⟩ = some (.slice p n c) := cell_heap g0 rfl
  have k0 : W.cell? ⟨w.heap.size + 1, 0, none⟩ = some (.int .i64 wb) := cell_heap g1 rfl
  have k1 : W.cell? ⟨w.heap.size + 1, 1, none⟩ = some (.int .i64 hb) := cell_heap g1 rfl
  have k2 : W.cell? ⟨w.heap.size + 1, 2, none⟩ = some (.slice q m d) := cell_heap g1 rfl
  have H2 := Lib.hid h2
  clear hg g0 g1 h2
  by_cases e1 : wa = wb
  case neg =>
    have d1 : (wa == wb) = false := by simpa using e1
    obtain rfl : r = false := by rw [← Hr.out]; exact decide_eq_false fun h => e1 h.1
    go_wp2
    go_ret
    exact ⟨rfl, H2.out⟩
  have d1 : (wa == wb) = true := by simpa using e1
  by_cases e2 : ha = hb
  case neg =>
    have d2 : (ha == hb) = false := by simpa using e2
    obtain rfl : r = false := by rw [← Hr.out]; exact decide_eq_false fun h => e2 h.2.1
    go_wp2
    go_ret
    exact ⟨rfl, H2.out⟩
  have d2 : (ha == hb) = true := by simpa using e2
  have hrr : decide (a = b) = r := by
    rw [← Hr.out]
    congr 1
    apply propext
    exact ⟨fun h => ⟨e1, e2, h⟩, fun h => h.2.2⟩
  rw [hrr] at H
  clear e1 e2 hrr
  go_wp2_with fail
  refine Calls.mono H ?_
  rintro _ w1 ⟨rfl, hb1⟩
  go_wp2
  go_ret
  exact ⟨rfl, Below.thn H2.out hb1⟩
set_option maxRecDepth 20000 in
set_option maxHeartbeats 4000000 in
theorem ccut_any (wd ht : Int) (p : Option Addr) (c : Nat) (l : List Nat) (w : World) (hp : RowAt encP 1 w p l) (hl : l.length ≤ 1048576) :
    Calls Tryz.prog 19 #[.agg #[.int .i64 wd, .int .i64 ht, .slice p l.length c]] w fun e w' => ∃ v, e = .returned (ImgV wd ht v) ∧ w'.ownsRow w.heap.size 41 1 v (l.map rlw).length ((l.map rlw).map pxv) ∧ Below w.heap.size w w' := by
  have h2 := Below.al2 w (.cells #[.int .i64 wd, .int .i64 ht, .slice p l.length c] 24) (.cells #[.int .i64 0, .int .i64 0, .slice none 0 0] 24)
  have H := rcut_any p c l _ (hp.below h2) hl
  have hg := heap_pushed [.cells #[.int .i64 wd, .int .i64 ht, .slice p l.length c] 24, .cells #[.int .i64 0, .int .i64 0, .slice none 0 0] 24] w
  have hs : ((w.alloc (.cells #[.int .i64 wd, .int .i64 ht, .slice p l.length c] 24)).alloc (.cells #[.int .i64 0, .int .i64 0, .slice none 0 0] 24)).heap.size = w.heap.size + 1 + 1 := by rw [World.size_alloc, World.size_alloc]
  simp only [List.foldl_cons, List.foldl_nil] at hg
  obtain ⟨n, hn⟩ : ∃ n, l.length = n := ⟨_, rfl⟩
  rw [hn] at H h2 hg hs ⊢
  clear hp hn hl
  go_enter Tryz.func19, Tryz.ntmps19
  go_upto_region 1 with (fail)
  generalize (w.alloc (.cells #[.int .i64 wd, .int .i64 ht, .slice p n c] 24)).alloc (.cells #[.int .i64 0, .int .i64 0, .slice none 0 0] 24) = W at *
  have g0 := (hg 0 _).2 rfl
  have g1 := (hg 1 _).2 rfl
  rw [Nat.add_zero] at g0
  have c0 : W.cell? ⟨w.heap.size, 0, none⟩ = some (.int .i64 wd) := cell_heap g0 rfl
  have c1 : W.cell? ⟨w.heap.size, 1, none⟩ = some (.int .i64 ht) := cell_heap g0 rfl
  have c2 : W.cell? ⟨w.heap.size, 2, none⟩ = some (.slice p n c) := cell_heap g0 rfl
  have f2 : W.frozen? ⟨w.heap.size, 2, none⟩ = false := by simp [World.frozen?, g0]
  have k0 : W.cell? ⟨w.heap.size + 1, 0, none⟩ = some (.int .i64 0) := cell_heap g1 rfl
  have k1 : W.cell? ⟨w.heap.size + 1, 1, none⟩ = some (.int .i64 0) := cell_heap g1 rfl
  have k2 : W.cell? ⟨w.heap.size + 1, 2, none⟩ = some (.slice none 0 0) := cell_heap g1 rfl
  have j0 : W.frozen? ⟨w.heap.size + 1, 0, none⟩ = false := by simp [World.frozen?, g1]
  have j1 : W.frozen? ⟨w.heap.size + 1, 1, none⟩ = false := by simp [World.frozen?, g1]
  have j2 : W.frozen? ⟨w.heap.size + 1, 2, none⟩ = false := by simp [World.frozen?, g1]
  have H2 := Lib.hid h2
  have Hs := Lib.hid hs
  clear hg g0 g1 h2 hs
  go_wp2_with fail
  refine Calls.mono H ?_
  rintro _ w1 ⟨v, rfl, ho, hb⟩
  rw [List.length_map] at ho
  obtain ⟨vp, vc, rfl⟩ := owns_slice ho
  have Ho := Lib.hid ho
  have Hb := Lib.hid (Below.thn H2.out hb)
  have q0 := cell_later hb c0
  have q1 := cell_later hb c1
  have q2 := cell_later hb c2
  have r2 := free_later hb c2 f2
  have m0 := cell_later hb k0
  have m1 := cell_later hb k1
  have m2 := cell_later hb k2
  have n0 := free_later hb k0 j0
  have n1 := free_later hb k1 j1
  have n2 := free_later hb k2 j2
  clear c0 c1 c2 f2 k0 k1 k2 j0 j1 j2 ho hb H
  go_upto_region 2 with (fail)
  have t1 : Turns (fun b => b = w.heap.size) w1 (w1.setCell ⟨w.heap.size, 2, none⟩ (.slice vp l.length vc)) := (Turns.refl (fun b => b = w.heap.size) w1).set (p := ⟨w.heap.size, 2, none⟩) rfl _
  have x0 : (w1.setCell ⟨w.heap.size, 2, none⟩ (.slice vp l.length vc)).cell? ⟨w.heap.size, 0, none⟩ = some (.int .i64 wd) := by simp [go_sem, q0]
  have x1 : (w1.setCell ⟨w.heap.size, 2, none⟩ (.slice vp l.length vc)).cell? ⟨w.heap.size, 1, none⟩ = some (.int .i64 ht) := by simp [go_sem, q1]
  have x2 : (w1.setCell ⟨w.heap.size, 2, none⟩ (.slice vp l.length vc)).cell? ⟨w.heap.size, 2, none⟩ = some (.slice vp l.length vc) := by simp [go_sem, q2]
  have hne : ¬ w.heap.size + 1 = w.heap.size := by omega
  have y0 := t1.cell m0 hne
  have y1 := t1.cell m1 hne
  have y2 := t1.cell m2 hne
  have z0 := t1.free m0 n0 hne
  have z1 := t1.free m1 n1 hne
  have z2 := t1.free m2 n2 hne
  have T1 := Lib.hid t1
  generalize w1.setCell ⟨w.heap.size, 2, none⟩ (.slice vp l.length vc) = w2 at *
  clear q0 q1 q2 r2 m0 m1 m2 n0 n1 n2 t1 hne
  go_wp2
  obtain ⟨u0, u1, u2, ut⟩ := img_set wd ht (.slice vp l.length vc) y0 y1 y2 _ rfl
  have hW := Hs.out
  refine bodyPost_ret (results_ci rfl rfl u0 u1 u2 ⟨_, _, _, rfl⟩) rfl ⟨_, rfl, ?_, ?_⟩
  · rw [List.length_map]
    refine ut.owns (T1.out.owns (owns_base Ho.out (by omega)) (fun i hi (h : i = w.heap.size) => ?_)) (fun i hi (h : i = w.heap.size + 1) => ?_)
    · have := (Ho.out.lt i hi).1; omega
    · have := (Ho.out.lt i hi).1; omega
  · have h1 : Below w.heap.size w w2 := Hb.out.trans (T1.out.below Hb.out.size fun i (hi : i = w.heap.size) => by omega)
    exact h1.trans (ut.below h1.size fun i (hi : i = w.heap.size + 1) => by omega)
end Go.Proofs.YtoladolgmeanhaaGreat

/- codec: what the statements' walks share. -/
namespace Go.Proofs.YtoladolgmeanhaaGreat
open Go.RowKit

attribute [local go_sem] Oper.semAt_some

structure ImB (w : World) (B : Nat) (wd ht : Int) (v : Value) : Prop where
  at' : w.heap[B]? = some (.cells #[.int .i64 wd, .int .i64 ht, v] 24)
theorem ImB.later {w w' : World} {B : Nat} {wd ht : Int} {v : Value} (h : ImB w B wd ht v) (hb : Below w.heap.size w w') : ImB w' B wd ht v := ⟨(hb.block B (lt_heap h.at')).trans h.at'⟩
theorem ImB.c {w : World} {B : Nat} {wd ht : Int} {v : Value} (h : ImB w B wd ht v) : w.cell? ⟨B, 0, none⟩ = some (.int .i64 wd) ∧ w.cell? ⟨B, 1, none⟩ = some (.int .i64 ht) ∧ w.cell? ⟨B, 2, none⟩ = some v := ⟨cell_heap h.at' rfl, cell_heap h.at' rfl, cell_heap h.at' rfl⟩
theorem ImB.new (w : World) (wd ht : Int) (v : Value) : ImB (w.alloc (.cells #[.int .i64 wd, .int .i64 ht, v] 24)) w.heap.size wd ht v := ⟨World.alloc_heap_new w _⟩
theorem ImB.put {w : World} {B : Nat} {x y z v : Value} {wd ht : Int} (h : w.heap[B]? = some (.cells #[x, y, z] 24)) : ImB (((w.setCell ⟨B, 0, none⟩ (.int .i64 wd)).setCell ⟨B, 1, none⟩ (.int .i64 ht)).setCell ⟨B, 2, none⟩ v) B wd ht v := by
  refine ⟨?_⟩
  obtain ⟨hlt, hk⟩ := Array.getElem?_eq_some_iff.1 h
  have h1 : (w.setCell ⟨B, 0, none⟩ (.int .i64 wd)).heap[B]? = some (.cells #[.int .i64 wd, y, z] 24) := by
    show (w.heap.modify B _)[B]? = _
    rw [Array.getElem?_eq_getElem (by rw [Array.size_modify]; exact hlt), Array.getElem_modify_self, hk]
    rfl
  obtain ⟨hlt1, hk1⟩ := Array.getElem?_eq_some_iff.1 h1
  have h2 : ((w.setCell ⟨B, 0, none⟩ (.int .i64 wd)).setCell ⟨B, 1, none⟩ (.int .i64 ht)).heap[B]? = some (.cells #[.int .i64 wd, .int .i64 ht, z] 24) := by
    show ((w.setCell ⟨B, 0, none⟩ (.int .i64 wd)).heap.modify B _)[B]? = _
    rw [Array.getElem?_eq_getElem (by rw [Array.size_modify]; exact hlt1), Array.getElem_modify_self, hk1]
    rfl
  obtain ⟨hlt2, hk2⟩ := Array.getElem?_eq_some_iff.1 h2
  show (((w.setCell ⟨B, 0, none⟩ (.int .i64 wd)).setCell ⟨B, 1, none⟩ (.int .i64 ht)).heap.modify B _)[B]? = _
  rw [Array.getElem?_eq_getElem (by rw [Array.size_modify]; exact hlt2), Array.getElem_modify_self, hk2]
  rfl
theorem cd_nat {wd ht : Int} {n : Nat} (h : cdM wd ht n) : 1 ≤ n ∧ n ≤ 65536 := by
  obtain ⟨q, h1, h2, h3⟩ := cd_area ⟨h.1, h.2.1, h.2.2.1, h.2.2.2.1⟩
  have := h.2.2.2.2
  omega
theorem DcE.yes {kd : Nat} {wd ht : Int} {b : List Nat} {base n : Nat} {L : List Nat} {e : Ending} {w' : World} (h : DcE kd wd ht b base e w') (hm : cdM wd ht n) (hk : 1 ≤ kd ∧ kd ≤ 4) (hC : CdR kd b n (some L)) :
    ∃ p c, e = .returned (.tuple #[.agg #[.int .i64 wd, .int .i64 ht, .slice p L.length c], .int .i64 0]) ∧ w'.ownsRow base 41 1 (.slice p L.length c) L.length (L.map pxv) := by
  rcases h with ⟨h, -⟩ | ⟨-, h, -⟩ | ⟨-, -, q, r, hq, hC', hr⟩
  · exact absurd ⟨hm.1, hm.2.1, hm.2.2.1, hm.2.2.2.1⟩ h
  · exact absurd hk h
  · obtain rfl : q = n := by have := hm.2.2.2.2; omega
    obtain rfl := hC.det hC'
    rcases hr with ⟨h, -⟩ | ⟨L', v, e', rfl, ho⟩
    · cases h
    · cases e'
      obtain ⟨p, c, rfl⟩ := owns_slice ho
      exact ⟨p, c, rfl, ho⟩
theorem DcE.no {kd : Nat} {wd ht : Int} {b : List Nat} {base n : Nat} {e : Ending} {w' : World} (h : DcE kd wd ht b base e w') (hm : cdM wd ht n) (hk : 1 ≤ kd ∧ kd ≤ 4) (hC : CdR kd b n none) :
    e = .returned (.tuple #[.agg #[.int .i64 0, .int .i64 0, .slice none 0 0], .int .i64 131]) := by
  rcases h with ⟨h, -⟩ | ⟨-, h, -⟩ | ⟨-, -, q, r, hq, hC', hr⟩
  · exact absurd ⟨hm.1, hm.2.1, hm.2.2.1, hm.2.2.2.1⟩ h
  · exact absurd hk h
  · obtain rfl : q = n := by have := hm.2.2.2.2; omega
    obtain rfl := hC.det hC'
    rcases hr with ⟨-, h⟩ | ⟨L', v, e', -, -⟩
    · exact h
    · cases e'
theorem tells_w {w0 : World} : ∀ W, Below w0.heap.size w0 W → Calls Tryz.prog 15 #[] W fun e w' => e = .returned (.bool true) ∧ Below w0.heap.size w0 w' := fun W hW =>
  Calls.mono (ctells_law W) (by
    rintro _ w' ⟨rfl, hb⟩
    exact ⟨rfl, Below.thn hW hb⟩)
theorem cut_w {w0 : World} {wd ht : Int} {p : Option Addr} {n c : Nat} {l : List Nat} (hv : Row encP 1 w0 (.slice p n c) l) (hl : n ≤ 1048576) : ∀ W, Below w0.heap.size w0 W →
    Calls Tryz.prog 19 #[.agg #[.int .i64 wd, .int .i64 ht, .slice p n c]] W fun e w' => ∃ p' c', e = .returned (.agg #[.int .i64 wd, .int .i64 ht, .slice p' n c']) ∧ Below w0.heap.size w0 w' ∧ Below W.heap.size W w' ∧ ∀ W', Below w'.heap.size w' W' → Row encP 1 W' (.slice p' n c') (l.map rlw) := fun W hW => by
  obtain rfl := hv.lenR
  refine Calls.mono (ccut_any wd ht p c l W (hv.below hW).at'.1 hl) ?_
  rintro _ w' ⟨v, rfl, ho, hb⟩
  rw [List.length_map] at ho
  obtain ⟨p', c', rfl⟩ := owns_slice ho
  exact ⟨p', c', rfl, Below.thn hW hb, hb, fun W' hW' => (own_rowP ho).below hW'⟩
theorem same_w {w : World} {wa ha wb hb : Int} {p q : Option Addr} {n m c d : Nat} {a b : List Nat} (hp : Row encP 1 w (.slice p n c) a) (hq : Row encP 1 w (.slice q m d) b) (la : n ≤ 1048576) (lb : m ≤ 1048576) (r : Bool) (hr : decide (wa = wb ∧ ha = hb ∧ a = b) = r) :
    Makes Tryz.prog 14 #[.agg #[.int .i64 wa, .int .i64 ha, .slice p n c], .agg #[.int .i64 wb, .int .i64 hb, .slice q m d]] w (.bool r) := by
  obtain rfl := hp.lenR
  obtain rfl := hq.lenR
  exact csame_any wa ha wb hb p q c d a b w hp.at'.1 hq.at'.1 la lb r hr
theorem plain_w {w : World} {p : Option Addr} {n c : Nat} {l : List Nat} (hv : Row encP 1 w (.slice p n c) l) (hl : n ≤ 1048576) :
    Calls Tryz.prog 12 #[.slice p n c] w fun e w' => ∃ p' c', e = .returned (.slice p' (3 * n) c') ∧ Below w.heap.size w w' ∧ ∀ W', Below w'.heap.size w' W' → Rw8 W' (.slice p' (3 * n) c') (cdP l) := by
  obtain rfl := hv.lenR
  refine Calls.mono (refPlain_any p c l w hv.at'.1 hl) ?_
  rintro _ w' ⟨v, rfl, ho, hb⟩
  rw [cdP_len] at ho
  obtain ⟨p', c', rfl⟩ := owns_slice ho
  exact ⟨p', c', rfl, hb, fun W' hW' => (Rw8.own ho (cdP_len l).symm).below hW'⟩
end Go.Proofs.YtoladolgmeanhaaGreat

/- Chained regions (ChainT): a new block, and a store of a row into it, among the last ones. Nothing here speaks of one program. -/
namespace Go.Proofs.YtoladolgmeanhaaGreat
open Go.RowKit

section
variable {P : Program} {ops : Array Oper} {C : World → Prop}

theorem ChC_alloc {E : (World → Prop) → Act → Prop} {Kn : World → Prop} {a : Act} {o : Oper} {rest : List Oper} (hgd : o.guard = none) (Z : Nat) (ob : Obj)
    (hrun : ∀ w, (execOp a.eval o).run P w = .ok (.value (.pointer (some ⟨w.heap.size, 0, none⟩))) (w.alloc ob)) (hC : StaysC C) (hK : StaysC Kn) (hZ : ∀ w, C w → Z ≤ w.heap.size)
    (h : ∀ v, ChC P C E rest (fun w => Kn w ∧ ∃ B, v = .pointer (some ⟨B, 0, none⟩) ∧ Z ≤ B ∧ w.heap[B]? = some ob) (a.put o.dst v)) : ChC P C E (o :: rest) Kn a := by
  refine ⟨hgd, fun v w => Kn w ∧ ∃ B, v = .pointer (some ⟨B, 0, none⟩) ∧ Z ≤ B ∧ w.heap[B]? = some ob, fun v w w' hk hb => ?_, fun w hw hk => ?_, h⟩
  · obtain ⟨k, B, e1, e0, e2⟩ := hk
    exact ⟨hK _ _ k hb, B, e1, e0, (hb.block B (((Array.getElem?_eq_some_iff.1 e2).1))).trans e2⟩
  · rw [hrun w]
    exact ⟨hC _ _ hw (Below.al1 w _), hK _ _ hk (Below.al1 w _), _, rfl, hZ w hw, World.alloc_heap_new w _⟩
theorem ChC_storeRow {E : (World → Prop) → Act → Prop} {Kn : World → Prop} {a : Act} {o : Oper} {rest : List Oper} (hgd : o.guard = none) (ty : TypeId) (x y : Operand) (ho : o.op = .store ty x y) (hd : o.dst = none)
    (pv : Value) (cells : Array Value) (hx : a.eval x = pv) (hy : a.eval y = .agg cells) (t : TypeId) (Z : Nat) (old : Array Value)
    (hKn : ∀ w, Kn w → ∃ B, pv = .pointer (some ⟨B, 0, none⟩) ∧ Z ≤ B ∧ w.heap[B]? = some (.cells old t (0, 0))) (hi : (P.info? ty).map (·.size) = some cells.size) (hold : old.size = cells.size) (h1 : cells.all (·.oneCell') = true)
    (hC : ∀ w B, C w → Z ≤ B → B < w.heap.size → C (w.setRow B cells))
    (h : ChC P C E rest (fun w => ∃ B, pv = .pointer (some ⟨B, 0, none⟩) ∧ Z ≤ B ∧ w.heap[B]? = some (.cells cells t (0, 0))) a) : ChC P C E (o :: rest) Kn a := by
  refine ⟨hgd, fun _ w => ∃ B, pv = .pointer (some ⟨B, 0, none⟩) ∧ Z ≤ B ∧ w.heap[B]? = some (.cells cells t (0, 0)), fun v w w' hk hb => ?_, fun w hw hk => ?_, fun v => ?_⟩
  · obtain ⟨B, e1, e0, e2⟩ := hk
    exact ⟨B, e1, e0, (hb.block B (((Array.getElem?_eq_some_iff.1 e2).1))).trans e2⟩
  · obtain ⟨B, e1, e0, e2⟩ := hKn w hk
    have hrun : (execOp a.eval o).run P w = .ok .skip (w.setRow B cells) := by
      unfold execOp
      simp only [ho, hx, hy, e1, Instr.storeAt, Instr.sureAddr, Sem.run_bind, Sem.run_pure, Result.andThen_ok, run_storeVar_row w B t ty old cells e2 hi hold h1]
    rw [hrun]
    exact ⟨hC w B hw e0 (Array.getElem?_eq_some_iff.1 e2).1, B, e1, e0, setRow_heap _ _ _ _ _ _ e2⟩
  · rw [hd]
    exact h
end

end Go.Proofs.YtoladolgmeanhaaGreat

/- codec: CodecPlain. -/
namespace Go.Proofs.YtoladolgmeanhaaGreat
open Go.RowKit

attribute [local go_sem] Oper.semAt_some

set_option maxRecDepth 20000 in
set_option maxHeartbeats 8000000 in
theorem cplain_law (wd ht : Int) (p : Option Addr) (n c : Nat) (l : List Nat) (w : World) (hv : Row encP 1 w (.slice p n c) l) (_h32 : ∀ x ∈ l, x < 4294967296) :
    Makes Tryz.prog 7 #[.agg #[.int .i64 wd, .int .i64 ht, .slice p n c]] w (.bool true) := by
  unfold Makes
  have hlen := hv.lenR
  have Hv := Lib.hid hv
  have Hlen := Lib.hid hlen
  clear hv hlen
  go_enter Tryz.func7, Tryz.ntmps7
  go_upto_region 1 with (fail)
  have hI := ImB.new w wd ht (.slice p n c)
  have hb0 := Below.al1 w (.cells #[.int .i64 wd, .int .i64 ht, .slice p n c] 24)
  generalize w.alloc (.cells #[.int .i64 wd, .int .i64 ht, .slice p n c] 24) = W0 at *
  obtain ⟨B, hB⟩ : ∃ B, w.heap.size = B := ⟨_, rfl⟩
  rw [hB] at hI ⊢
  have Hb0 := Lib.hid hb0
  have HB := Lib.hid hB
  clear hb0 hB
  obtain ⟨c0, c1, c2⟩ := hI.c
  have HI := Lib.hid hI
  by_cases h4 : 4000 < n
  · have d0 : decide ((n : Int) > 4000) = true := by simp; omega
    go_wp2_with fail
    refine Calls.mono (ctells_law _) ?_
    rintro _ w1 ⟨rfl, hb1⟩
    go_wp2
    go_ret
    rw [← HB.out]
    exact ⟨rfl, Below.thn Hb0.out hb1⟩
  have d0 : decide ((n : Int) > 4000) = false := by simp; omega
  obtain ⟨f, hf⟩ : ∃ f, decide (cdM wd ht n) = f := ⟨_, rfl⟩
  have Hf := Lib.hid hf
  go_wp2_with fail
  refine Calls.mono (refMay_any wd ht p n c W0 f hf) ?_
  rintro _ w1 ⟨rfl, hb1⟩
  have Hb1 := Lib.hid (Below.thn Hb0.out hb1)
  obtain ⟨x0, x1, x2⟩ := (HI.out.later hb1).c
  have HI1 := Lib.hid (HI.out.later hb1)
  clear hf hb1 c0 c1 c2
  cases f
  case false =>
    go_wp2_with fail
    refine Calls.mono (ctells_law _) ?_
    rintro _ w2 ⟨rfl, hb2⟩
    go_wp2
    go_ret
    rw [← HB.out]
    exact ⟨rfl, Below.thn Hb1.out hb2⟩
  have HM : Hid (cdM wd ht n) := Lib.hid (of_decide_eq_true Hf.out)
  have hn1 := (cd_nat HM.out).1
  clear hI
  go_wp2_with fail
  refine Calls.mono (plain_w (Hv.out.below Hb1.out) (by omega)) ?_
  rintro _ w2 ⟨p2, c2, rfl, hb2, hr2⟩
  have HR2 := Lib.hid hr2
  have Hb2 := Lib.hid (Below.thn Hb1.out hb2)
  obtain ⟨y0, y1, y2⟩ := (HI1.out.later hb2).c
  have HI2 := Lib.hid (HI1.out.later hb2)
  obtain ⟨m, hm⟩ : ∃ m, 3 * n = m := ⟨_, rfl⟩
  have Hm := Lib.hid hm
  have hm1 : 3 ≤ m := by omega
  have hm2 : m ≤ 12000 := by omega
  rw [hm] at HR2 ⊢
  have HC : Hid (CdR 1 (cdP l) n (some (l.map rlw))) := Lib.hid (.inl ⟨rfl, by rw [if_pos (by rw [cdP_len, Hlen.out]), cdP_tri]⟩)
  clear hb2 hr2 x0 x1 x2 hm
  go_wp2_with fail
  refine Calls.mono (cdec_row 1 wd ht (HR2.out w2 (Below.refl _ _)) (by decide) (cdP_256 l) (by omega)) ?_
  rintro e w3 ⟨hb3, hD⟩
  obtain ⟨p3, c3, rfl, ho3⟩ := hD.yes HM.out (by decide) HC.out
  rw [List.length_map, Hlen.out] at ho3 ⊢
  have hx3 := own_rowP ho3
  have Hb3 := Lib.hid (Below.thn Hb2.out hb3)
  have HI3 := Lib.hid (HI2.out.later hb3)
  have HR3 := Lib.hid (HR2.out _ hb3)
  have HX3 := Lib.hid hx3
  clear hb3 hD ho3 hx3 y0 y1 y2
  go_upto_region 5 with (fail)
  have hbx := Below.al1 w3 (.cells #[.int .i64 wd, .int .i64 ht, .slice p3 n c3] 24)
  have hIx := ImB.new w3 wd ht (.slice p3 n c3)
  generalize w3.alloc (.cells #[.int .i64 wd, .int .i64 ht, .slice p3 n c3] 24) = w4 at *
  have Hb4 := Lib.hid (Below.thn Hb3.out hbx)
  have HI4 := Lib.hid (HI3.out.later hbx)
  have HX4 := Lib.hid (HX3.out.below hbx)
  have hr4 := HR3.out.below hbx
  have HIx := Lib.hid hIx
  obtain ⟨z0, z1, z2⟩ := HI4.out.c
  obtain ⟨g2, o2, e2, -⟩ := hr4.row.at'.1.bytes (by rw [cdP_len, Hlen.out]; omega)
  subst e2
  obtain ⟨p5, c5, hsl, hrow5, hc5, hc5', hp5⟩ := pslice_tail8 (S := 1) hr4.row.at'.1 (n := m) (c := c2) (by rw [cdP_len, Hlen.out]; exact Hm.out) (by omega) (by have := hr4.row.at'.2; rw [cdP_len, Hlen.out, Hm.out] at this; exact this)
  have hl5 : ((cdP l).drop 1).length = m - 1 := by rw [List.length_drop, cdP_len, Hlen.out, Hm.out]
  have HR5 : Hid (Rw8 w4 (.slice p5 (m - 1) c5) ((cdP l).drop 1)) := Lib.hid ⟨⟨p5, c5, by rw [hl5], by rw [hl5]; exact hc5, by have := row_cap hr4.row; omega, hrow5⟩, fun c h => absurd (by injection h) hp5⟩
  have HC5 : Hid (CdR 1 ((cdP l).drop 1) n none) := Lib.hid (.inl ⟨rfl, by rw [if_neg (by rw [hl5]; have := Hm.out; omega)]⟩)
  have HD5 : Hid (∀ k : After w4, Makes Tryz.prog 16 #[.int .u8 1, .int .i64 wd, .int .i64 ht, .slice p5 (m - 1) c5] k.world (.tuple #[.agg #[.int .i64 0, .int .i64 0, .slice none 0 0], .int .i64 131])) := Lib.hid (fun k =>
    Calls.mono (cdec_row 1 wd ht (HR5.out.below k.below) (by decide) (fun x hx => cdP_256 l x (List.mem_of_mem_drop hx)) (by omega)) (by
      rintro e w' ⟨hb, hD⟩
      exact ⟨hD.no HM.out (by decide) HC5.out, hb⟩))
  have hsl' : ∀ w' : World, (Instr.slice 25 (.slice (some ⟨g2, o2, none⟩) m c2) (some (.int .i64 1)) none none).run Tryz.prog w' = .ok (.slice p5 (m - 1) c5) w' := hsl
  have HIx' := HIx
  clear hsl hrow5 hc5 hc5' hp5 hl5 hr4 hbx hIx
  obtain ⟨C, hC⟩ : ∃ C : World → Prop, C = fun w' => Below w4.heap.size w4 w' := ⟨_, rfl⟩
  have hCst : StaysC C := by
    rw [hC]
    exact fun w w' h hb => Below.thn h hb
  have hCi : ∀ w, C w → Below w4.heap.size w4 w := by
    rw [hC]
    exact fun _ h => h
  have hC0 : C w4 := by rw [hC]; exact Below.refl _ _
  have hK0 : StaysC (fun _ : World => True) := fun _ _ _ _ => trivial
  have q0 : ∀ n : InC C, n.world.cell? ⟨B, 0, none⟩ = some (.int .i64 wd) := fun n => cell_later (hCi _ n.ok) z0
  have q1 : ∀ n : InC C, n.world.cell? ⟨B, 1, none⟩ = some (.int .i64 ht) := fun n => cell_later (hCi _ n.ok) z1
  have hqq : Nonempty (InC C) := ⟨⟨w4, hC0⟩⟩
  have HCi := Lib.hid hCi
  have HCe := Lib.hid hC
  clear z0 z1 z2 hC hCi
  refine wp_region_chainT 10 12 C (fun _ => True) (by kernel_rfl) (by decide) (by kernel_rfl) (by kernel_rfl) (by kernel_rfl) hCst hC0 hK0 trivial ?_
  repeat (refine LqC_on (fun K hK => ?_); go_simp; first | (refine hK _ ?_; clear hK K) | (apply Exists.intro; refine ⟨fun n => ?_, hK _ ?_⟩; (go_at_call 16; exact HD5.out ⟨n.world, HCi.out _ n.ok⟩); clear hK K))
  refine LqC_nil ?_
  simp only [List.take_succ_cons, List.take_zero, List.drop_succ_cons, List.drop_zero]
  refine ChC_alloc rfl w4.heap.size (.cells #[.int .i64 0, .int .i64 0, .slice none 0 0] 24) ?hrun hCst hK0 (fun w hw => (HCi.out w hw).size) (fun v => ?_)
  case hrun =>
    intro w'
    first
      | rfl
      | (go_simp; done)
      | kernel_rfl
  refine ChC_storeRow rfl 24 (.tmp 6) (.tmp 38) rfl rfl v #[.int .i64 0, .int .i64 0, .slice none 0 0] rfl rfl 24 w4.heap.size #[.int .i64 0, .int .i64 0, .slice none 0 0] (fun w h => h.2) (by kernel_rfl) rfl (by kernel_rfl) ?hC ?_
  case hC =>
    intro w B hw hB _
    rw [HCe.out]
    exact below_setRow (HCi.out w hw) hB _
  intro w5 hw5 hk5
  obtain ⟨B5, rfl, hB5, hT5⟩ := hk5
  have hb5 := HCi.out w5 hw5
  have Hb5 := Lib.hid hb5
  clear hw5 hB5 hT5 hCst hC0 hK0 hqq q0 q1
  obtain ⟨u0, u1, u2⟩ := (HI4.out.later hb5).c
  obtain ⟨t0, t1, t2⟩ := (HIx'.out.later hb5).c
  clear hb5
  have HV5 := Lib.hid (Hv.out.below (Below.thn Hb4.out Hb5.out))
  have HX5 := Lib.hid (HX4.out.below Hb5.out)
  have HCut := Lib.hid (cut_w (wd := wd) (ht := ht) HV5.out (by omega))
  have HT := Lib.hid (tells_w (w0 := w5))
  have HS : Hid (∀ W (p' : Option Addr) (c' : Nat), Below w5.heap.size w5 W → Row encP 1 W (.slice p' n c') (l.map rlw) → Calls Tryz.prog 14 #[.agg #[.int .i64 wd, .int .i64 ht, .slice p3 n c3], .agg #[.int .i64 wd, .int .i64 ht, .slice p' n c']] W fun e w' => e = .returned (.bool true) ∧ Below w5.heap.size w5 w') := Lib.hid (fun W p' c' hW hr =>
    Calls.mono (same_w (HX5.out.below hW) hr (by omega) (by omega) true (by simp)) (by
      rintro _ w' ⟨rfl, hb⟩
      exact ⟨rfl, Below.thn hW hb⟩))
  go_simp
  go_upto_region 6 with (fail)
  go_region_with (first
    | (go_at_call 19; refine Calls.mono (HCut.out _ (Below.drew (Below.refl _ _))) ?_; rintro _ wc ⟨pc, cc, rfl, hbc, hsc, hrc⟩; have a0 := cell_later hbc t0; have a1 := cell_later hbc t1; have a2 := cell_later hbc t2)
    | (go_at_call 14; refine Calls.mono (HS.out _ _ _ hbc (hrc _ (Below.refl _ _))) ?_; rintro _ ws ⟨rfl, hbs⟩)
    | (go_at_call 15; refine Calls.mono (HT.out _ hbs) ?_; rintro _ wt ⟨rfl, hbt⟩))
  all_goals
    go_wp2
    go_ret
    rw [← HB.out]
    exact ⟨rfl, Below.thn Hb4.out (Below.thn Hb5.out hbt)⟩
end Go.Proofs.YtoladolgmeanhaaGreat
