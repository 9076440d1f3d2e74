/- Several texts in one, each with its own head. -/
import Derived.Test.YtoladolgmeanhaaGreatQc43
import Derived.Test.YtoladolgmeanhaaGreatQc42
import Derived.Test.YtoladolgmeanhaaGreatQc45
import Derived.Test.YtoladolgmeanhaaGreatQc41
import Derived.Test.YtoladolgmeanhaaGreatQc1
import Derived.ProofKit
import Derived.Lib.SmallJoins
import Derived.Test.YtoladolgmeanhaaGreatQc4
import Derived.Deep.Slices
import Derived.Test.YtoladolgmeanhaaGreatQc31
/- codec: the document's May, Plain, Same; cut. -/
namespace Go.Proofs.YtoladolgmeanhaaGreat
open Go.RowKit

attribute [local go_sem] Oper.semAt_some

set_option maxRecDepth 20000 in
set_option maxHeartbeats 4000000 in
theorem refPlain_any (p : Option Addr) (c : Nat) (l : List Nat) (w : World) (hp : RowAt encP 1 w p l) (hl : l.length ≤ 1048576) :
    Calls Tryz.prog 12 #[.slice p l.length c] w fun e w' => ∃ v', e = .returned v' ∧ w'.ownsRow w.heap.size 5 1 v' (cdP l).length ((cdP l).map u8v) ∧ Below w.heap.size w w' := by
  have H := rcut_any p c l w hp hl
  obtain ⟨i0, hi0, hz0, hz1, hz2⟩ := info_parts u8_info
  have hlow : ∀ i, (l.map rlw).getD i 0 < 16777216 := fun i => by
    rw [List.getD_eq_getElem?_getD, List.getElem?_map]
    cases l[i]? with
    | none => decide
    | some x => exact rlw_lt x
  have Hlow := Lib.hid hlow
  have hlen : (l.map rlw).length = l.length := List.length_map _
  rw [← cdP_map]
  have hll : ∀ x ∈ l.map rlw, rlw x = x := fun x hx => by
    obtain ⟨y, -, rfl⟩ := List.mem_map.1 hx
    exact rlw_rlw y
  obtain ⟨L, hL⟩ : ∃ L, l.map rlw = L := ⟨_, rfl⟩
  rw [hL] at H Hlow hlen hll ⊢
  obtain ⟨n, hn⟩ : ∃ n, l.length = n := ⟨_, rfl⟩
  rw [hn] at H hlen hl ⊢
  have Hn := Lib.hid hlen
  have Htk := Lib.hid fun (i : Nat) (h : i < L.length) => cdP_take L h
  have Hll := Lib.hid hll
  rw [hlen] at H
  clear hp hL hn hlow hlen hll
  go_enter Tryz.func12, Tryz.ntmps12
  go_wp2_with fail
  refine Calls.mono H ?_
  rintro _ w1 ⟨v1, rfl, ho1, hb1⟩
  have hr1 := own_rowP ho1
  obtain ⟨p1, c1, rfl⟩ := owns_slice ho1
  have Hr1 := Lib.hid hr1.at'.1
  have Hb1 := Lib.hid hb1
  clear ho1 hr1 hb1 H
  go_wp2_with fail
  go_loopw [4, 5] (fun ov iv wr => ∃ (i : Nat) (o : List Nat), iv = .int .i64 (i : Int) ∧ i ≤ n ∧ o.length ≤ 3 * i ∧ Hid (o = cdP (L.take i)) ∧ Hid (wr.ownsRow w1.heap.size 5 1 ov o.length (o.map u8v)) ∧ Hid (Below w1.heap.size w1 wr)) (fun _ iv _ => n - (intOf iv).toNat)
  case atStart => exact ⟨0, [], rfl, Nat.zero_le _, by simp, Lib.hid rfl, Lib.hid (World.ownsRow_nil _ _ _ _), Lib.hid (Below.refl _ _)⟩
  case round =>
    obtain ⟨i, o, rfl, hi, hol, HE, HO, HB⟩ := hrel
    obtain ⟨vp, vc, rfl⟩ := owns_slice HO.out
    by_cases hin : i < n
    · have d1 : decide ((i : Int) < (n : Int)) = true := by simp; omega
      have hin' : i < L.length := by rw [Hn.out]; exact hin
      obtain ⟨g, off, rfl, hc⟩ := Hr1.out.pxs (by rw [Hn.out]; omega)
      have x0 := cell_later HB.out (hc i hin')
      have Hs := Lib.hid (Htk.out i hin')
      have hxb := Hlow.out i
      have hxr : rlw (L.getD i 0) = L.getD i 0 := Nat.mod_eq_of_lt hxb
      rw [hxr] at Hs
      obtain ⟨x, hx⟩ : ∃ x, L.getD i 0 = x := ⟨_, rfl⟩
      rw [hx] at x0 Hs hxb
      obtain ⟨a2, ha2⟩ : ∃ a, x / 65536 = a := ⟨_, rfl⟩
      obtain ⟨b3, hb3⟩ : ∃ a, x / 256 = a := ⟨_, rfl⟩
      obtain ⟨a3, ha3⟩ : ∃ a, b3 % 256 = a := ⟨_, rfl⟩
      obtain ⟨a4, ha4⟩ : ∃ a, x % 256 = a := ⟨_, rfl⟩
      have e2 : (x : Int) / 65536 = (a2 : Int) := by omega
      have e3 : (x : Int) / 256 = (b3 : Int) := by omega
      have e3' : (b3 : Int) % 256 = (a3 : Int) := by omega
      have e4 : (x : Int) % 256 = (a4 : Int) := by omega
      have l2 : a2 ≤ 255 := by omega
      have l3 : a3 ≤ 255 := by omega
      have l4 : a4 ≤ 255 := by omega
      have Hb : Hid (plB x = [a2, a3, a4]) := Lib.hid (by show [x / 65536, x / 256 % 256, x % 256] = _; rw [ha2, hb3, ha3, ha4])
      have wu : ∀ a : Nat, a ≤ 255 → IntKind.u8.wrap (a : Int) = (a : Int) := fun a h => by rw [IntKind.wrap_u8]; omega
      have ww2 : IntKind.u32.wrap (a2 : Int) = (a2 : Int) := by rw [IntKind.wrap_u32]; omega
      have ww3 : IntKind.u32.wrap (b3 : Int) = (b3 : Int) := by rw [IntKind.wrap_u32]; omega
      have ww5 := wu a2 l2
      have ww6 := wu a3 l3
      have ww7 := wu a4 l4
      have t3 : Int.tmod (b3 : Int) 256 = (a3 : Int) := by rw [Int.tmod_eq_emod_of_nonneg (by omega)]; exact e3'
      have t4 : Int.tmod (x : Int) 256 = (a4 : Int) := by rw [Int.tmod_eq_emod_of_nonneg (by omega)]; exact e4
      have hs0 : w1.heap.size ≤ wr.heap.size := HB.out.size
      have j0 : (0 : Int) ≤ (i : Int) := by omega
      have j1 : (i : Int) < (n : Int) := by omega
      clear ha2 ha3 ha4 hb3 wu hx hc hxr
      go_upto_region 6 with (fail)
      have q1 := cell_later (Below.al1 wr (.cells #[.int .u8 (a2 : Int), .int .u8 (a3 : Int), .int .u8 (a4 : Int)] 5)) x0
      go_region_law (refine step_append_lies _ (by rfl) (.tmp 14) (.tmp 34) 25 (by rfl) w1.heap.size 5 i0 _ 1 1 Tryz.underlying25 hi0 hz0 hz1 hz2 rfl (by decide) (.slice vp o.length vc) o.length (o.map u8v) (by rfl) (owns_drewR (HO.out.alloc _)) _ 3 3 [.int .u8 (a2 : Int), .int .u8 (a3 : Int), .int .u8 (a4 : Int)] (by rfl) rfl (fun j u hu => news_drewR _ _ [.int .u8 (a2 : Int), .int .u8 (a3 : Int), .int .u8 (a4 : Int)] j u hu) (one8 [a2, a3, a4]) (by decide) (by simp only [maxLen]; omega) (by omega) (by simp; omega) (wr.heap.size + 1) (by simp) ?_; intro g5 cap5 w9 hown5 hgr5 hpl5 hlt5)
      all_goals
        have Ho5 : Hid (w9.ownsRow w1.heap.size 5 1 (.slice (some ⟨g5, 0, none⟩) (o.length + 3) cap5) (o ++ plB x).length ((o ++ plB x).map u8v)) := Lib.hid (by
          rw [Hb.out, List.length_append, List.map_append]; exact hown5)
        have hT : Turns (fun i => (Value.slice vp o.length vc).ownBlock = some i) wr w9 := (Turns.of_below' (Below.drew (Below.al1 wr _))).trans (Turns.of_grown hgr5 (fun _ h => h))
        have HB5 : Hid (Below w1.heap.size w1 w9) := Lib.hid (HB.out.trans (hT.below HB.out.size (fun i hi => (HO.out.lt i hi).1)))
        have hlen5 : (o ++ plB x).length ≤ 3 * (i + 1) := by rw [Hb.out, List.length_append]; simp only [List.length_cons, List.length_nil]; omega
        have HE5 : Hid (o ++ plB x = cdP (L.take (i + 1))) := Lib.hid (by rw [Hs.out, HE.out])
        clear hown5 hgr5 hpl5 hlt5 hT q1 x0 e2 e3 e3' e4 ww2 ww3 ww5 ww6 ww7 t3 t4
        go_wp2
        go_roundw
        case rel => exact ⟨i + 1, _, by go_num, by omega, hlen5, HE5, Ho5, HB5⟩
        case measure => simp [intOf]; omega
    · obtain rfl : i = n := by omega
      have d1 : decide ((i : Int) < (i : Int)) = false := by simp
      have HX : Hid (o = cdP L) := Lib.hid (by rw [HE.out, List.take_of_length_le (by rw [Hn.out]; exact Nat.le_refl _)])
      go_wp2
      go_ret
      refine ⟨_, rfl, ?_, Below.thn Hb1.out HB.out⟩
      rw [← HX.out]
      exact owns_base HO.out Hb1.out.size
set_option maxRecDepth 20000 in
set_option maxHeartbeats 4000000 in
theorem refMay_any (wd ht : Int) (p : Option Addr) (n c : Nat) (w : World) (f : Bool) (hf : decide (cdM wd ht n) = f) :
    Makes Tryz.prog 18 #[.agg #[.int .i64 wd, .int .i64 ht, .slice p n c]] w (.bool f) := by
  unfold Makes
  have Hf := Lib.hid hf
  have hb := Below.al1 w (.cells #[.int .i64 wd, .int .i64 ht, .slice p n c] 24)
  have Hb := Lib.hid hb
  clear hb hf
  go_enter Tryz.func18, Tryz.ntmps18
  by_cases h1 : 1 ≤ wd
  case neg =>
    have d1 : decide (wd ≥ 1) = false := by simpa using h1
    obtain rfl : f = false := by rw [← Hf.out]; exact decide_eq_false fun h => h1 h.1
    go_wp2
    go_ret
    exact ⟨rfl, Hb.out⟩
  have d1 : decide (wd ≥ 1) = true := by simpa using h1
  by_cases h2 : 1 ≤ ht
  case neg =>
    have d2 : decide (ht ≥ 1) = false := by simpa using h2
    obtain rfl : f = false := by rw [← Hf.out]; exact decide_eq_false fun h => h2 h.2.1
    go_wp2
    go_ret
    exact ⟨rfl, Hb.out⟩
  have d2 : decide (ht ≥ 1) = true := by simpa using h2
  by_cases h3 : wd ≤ 256
  case neg =>
    have d3 : decide (wd ≤ 256) = false := by simpa using h3
    obtain rfl : f = false := by rw [← Hf.out]; exact decide_eq_false fun h => h3 h.2.2.1
    go_wp2
    go_ret
    exact ⟨rfl, Hb.out⟩
  have d3 : decide (wd ≤ 256) = true := by simpa using h3
  by_cases h4 : ht ≤ 256
  case neg =>
    have d4 : decide (ht ≤ 256) = false := by simpa using h4
    obtain rfl : f = false := by rw [← Hf.out]; exact decide_eq_false fun h => h4 h.2.2.2.1
    go_wp2
    go_ret
    exact ⟨rfl, Hb.out⟩
  have d4 : decide (ht ≤ 256) = true := by simpa using h4
  obtain ⟨q, hq, hq1, hq2⟩ := cd_area ⟨h1, h2, h3, h4⟩
  have Hh := Lib.hid (show 1 ≤ wd ∧ 1 ≤ ht ∧ wd ≤ 256 ∧ ht ≤ 256 from ⟨h1, h2, h3, h4⟩)
  have Hq := Lib.hid hq
  have hwm : IntKind.i64.wrap (wd * ht) = (q : Int) := by rw [hq]; exact IntWalk.i64_in _ (by omega)
  clear h1 h2 h3 h4
  have hd : ((n : Int) == (q : Int)) = f := by
    rw [← Hf.out]
    by_cases h : n = q
    · subst h
      rw [decide_eq_true (show cdM wd ht n from ⟨Hh.out.1, Hh.out.2.1, Hh.out.2.2.1, Hh.out.2.2.2, hq.symm⟩)]
      simp
    · rw [decide_eq_false fun hm => h (by have := hm.2.2.2.2; rw [hq] at this; omega)]
      simp; omega
  go_wp2
  go_ret
  exact ⟨by rw [← hd]; rfl, Hb.out⟩
end Go.Proofs.YtoladolgmeanhaaGreat

/- codec: the document's Same; cut. -/
namespace Go.Proofs.YtoladolgmeanhaaGreat
open Go.RowKit

attribute [local go_sem] Oper.semAt_some

set_option maxRecDepth 20000 in
set_option maxHeartbeats 4000000 in
theorem csame_any (wa ha wb hb : Int) (p q : Option Addr) (c d : Nat) (a b : List Nat) (w : World) (hp : RowAt encP 1 w p a) (hq : RowAt encP 1 w q b) (la : a.length ≤ 1048576) (lb : b.length ≤ 1048576) (r : Bool) (hr : decide (wa = wb ∧ ha = hb ∧ a = b) = r) :
    Makes Tryz.prog 14 #[.agg #[.int .i64 wa, .int .i64 ha, .slice p a.length c], .agg #[.int .i64 wb, .int .i64 hb, .slice q b.length d]] w (.bool r) := by
  unfold Makes
  have Hr := Lib.hid hr
  have h2 := Below.al2 w (.cells #[.int .i64 wa, .int .i64 ha, .slice p a.length c] 24) (.cells #[.int .i64 wb, .int .i64 hb, .slice q b.length d] 24)
  have H := rsame_any p q c d a b _ (hp.below h2) (hq.below h2) la lb
  have hg := heap_pushed [.cells #[.int .i64 wa, .int .i64 ha, .slice p a.length c] 24, .cells #[.int .i64 wb, .int .i64 hb, .slice q b.length d] 24] w
  simp only [List.foldl_cons, List.foldl_nil] at hg
  obtain ⟨n, hn⟩ : ∃ n, a.length = n := ⟨_, rfl⟩
  obtain ⟨m, hm⟩ : ∃ n, b.length = n := ⟨_, rfl⟩
  rw [hn, hm] at H h2 hg ⊢
  clear hp hq hn hm la lb hr
  go_enter Tryz.func14, Tryz.ntmps14
  go_upto_region 1 with (fail)
  generalize (w.alloc (.cells #[.int .i64 wa, .int .i64 ha, .slice p n c] 24)).alloc (.cells #[.int .i64 wb, .int .i64 hb, .slice q m d] 24) = W at *
  have g0 := (hg 0 _).2 rfl
  have g1 := (hg 1 _).2 rfl
  rw [Nat.add_zero] at g0
  have c0 : W.cell? ⟨w.heap.size, 0, none⟩ = some (.int .i64 wa) := cell_heap g0 rfl
  have c1 : W.cell? ⟨w.heap.size, 1, none⟩ = some (.int .i64 ha) := cell_heap g0 rfl
  have c2 : W.cell? ⟨w.heap.size, 2, none⟩ = some (.slice p n c) := cell_heap g0 rfl
  have k0 : W.cell? ⟨w.heap.size + 1, 0, none⟩ = some (.int .i64 wb) := cell_heap g1 rfl
  have k1 : W.cell? ⟨w.heap.size + 1, 1, none⟩ = some (.int .i64 hb) := cell_heap g1 rfl
  have k2 : W.cell? ⟨w.heap.size + 1, 2, none⟩ = some (.slice q m d) := cell_heap g1 rfl
  have H2 := Lib.hid h2
  clear hg g0 g1 h2
  by_cases e1 : wa = wb
  case neg =>
    have d1 : (wa == wb) = false := by simpa using e1
    obtain rfl : r = false := by rw [← Hr.out]; exact decide_eq_false fun h => e1 h.1
    go_wp2
    go_ret
    exact ⟨rfl, H2.out⟩
  have d1 : (wa == wb) = true := by simpa using e1
  by_cases e2 : ha = hb
  case neg =>
    have d2 : (ha == hb) = false := by simpa using e2
    obtain rfl : r = false := by rw [← Hr.out]; exact decide_eq_false fun h => e2 h.2.1
    go_wp2
    go_ret
    exact ⟨rfl, H2.out⟩
  have d2 : (ha == hb) = true := by simpa using e2
  have hrr : decide (a = b) = r := by
    rw [← Hr.out]
    congr 1
    apply propext
    exact ⟨fun h => ⟨e1, e2, h⟩, fun h => h.2.2⟩
  rw [hrr] at H
  clear e1 e2 hrr
  go_wp2_with fail
  refine Calls.mono H ?_
  rintro _ w1 ⟨rfl, hb1⟩
  go_wp2
  go_ret
  exact ⟨rfl, Below.thn H2.out hb1⟩
end Go.Proofs.YtoladolgmeanhaaGreat

/- codec: what the statements' walks share. -/
namespace Go.Proofs.YtoladolgmeanhaaGreat
open Go.RowKit

attribute [local go_sem] Oper.semAt_some

structure ImB (w : World) (B : Nat) (wd ht : Int) (v : Value) : Prop where
  at' : w.heap[B]? = some (.cells #[.int .i64 wd, .int .i64 ht, v] 24)
theorem ImB.later {w w' : World} {B : Nat} {wd ht : Int} {v : Value} (h : ImB w B wd ht v) (hb : Below w.heap.size w w') : ImB w' B wd ht v := ⟨(hb.block B (lt_heap h.at')).trans h.at'⟩
theorem ImB.c {w : World} {B : Nat} {wd ht : Int} {v : Value} (h : ImB w B wd ht v) : w.cell? ⟨B, 0, none⟩ = some (.int .i64 wd) ∧ w.cell? ⟨B, 1, none⟩ = some (.int .i64 ht) ∧ w.cell? ⟨B, 2, none⟩ = some v := ⟨cell_heap h.at' rfl, cell_heap h.at' rfl, cell_heap h.at' rfl⟩
theorem ImB.new (w : World) (wd ht : Int) (v : Value) : ImB (w.alloc (.cells #[.int .i64 wd, .int .i64 ht, v] 24)) w.heap.size wd ht v := ⟨World.alloc_heap_new w _⟩
theorem cd_nat {wd ht : Int} {n : Nat} (h : cdM wd ht n) : 1 ≤ n ∧ n ≤ 65536 := by
  obtain ⟨q, h1, h2, h3⟩ := cd_area ⟨h.1, h.2.1, h.2.2.1, h.2.2.2.1⟩
  have := h.2.2.2.2
  omega
theorem same_w {w : World} {wa ha wb hb : Int} {p q : Option Addr} {n m c d : Nat} {a b : List Nat} (hp : Row encP 1 w (.slice p n c) a) (hq : Row encP 1 w (.slice q m d) b) (la : n ≤ 1048576) (lb : m ≤ 1048576) (r : Bool) (hr : decide (wa = wb ∧ ha = hb ∧ a = b) = r) :
    Makes Tryz.prog 14 #[.agg #[.int .i64 wa, .int .i64 ha, .slice p n c], .agg #[.int .i64 wb, .int .i64 hb, .slice q m d]] w (.bool r) := by
  obtain rfl := hp.lenR
  obtain rfl := hq.lenR
  exact csame_any wa ha wb hb p q c d a b w hp.at'.1 hq.at'.1 la lb r hr
theorem plain_w {w : World} {p : Option Addr} {n c : Nat} {l : List Nat} (hv : Row encP 1 w (.slice p n c) l) (hl : n ≤ 1048576) :
    Calls Tryz.prog 12 #[.slice p n c] w fun e w' => ∃ p' c', e = .returned (.slice p' (3 * n) c') ∧ Below w.heap.size w w' ∧ ∀ W', Below w'.heap.size w' W' → Rw8 W' (.slice p' (3 * n) c') (cdP l) := by
  obtain rfl := hv.lenR
  refine Calls.mono (refPlain_any p c l w hv.at'.1 hl) ?_
  rintro _ w' ⟨v, rfl, ho, hb⟩
  rw [cdP_len] at ho
  obtain ⟨p', c', rfl⟩ := owns_slice ho
  exact ⟨p', c', rfl, hb, fun W' hW' => (Rw8.own ho (cdP_len l).symm).below hW'⟩
end Go.Proofs.YtoladolgmeanhaaGreat

/- codec: the document's Encode. -/
namespace Go.Proofs.YtoladolgmeanhaaGreat
open Go.RowKit

attribute [local go_sem] Oper.semAt_some

end Go.Proofs.YtoladolgmeanhaaGreat

/- codec: CodecEncodes. -/
namespace Go.Proofs.YtoladolgmeanhaaGreat
open Go.RowKit

attribute [local go_sem] Oper.semAt_some

end Go.Proofs.YtoladolgmeanhaaGreat

/- From a walk that ends in true, and that changes nothing that was there, to what a statement says: whatever the arguments, they read behind the call as they read before. Nothing here speaks of one function. -/
namespace Go.Proofs.YtoladolgmeanhaaGreat
open Go.ChangeShapes Go.WideShapes Go.ChangeAt Go.RowKit Go.Joins

theorem Tryz.own : ownKnob Tryz.prog.godebug = none := by kernel_rfl
theorem Tryz.laidOut : laidOutB Tryz.prog = true := by kernel_rfl
theorem trodAll_below {H : Type} {enc : TypeId × Value → H} {P : Program} (hl : laidOutB P = true) {W W' : World} (hb : Below W.heap.size W W') :
    ∀ (ts : List TypeId) (vs : List Value) (ds : List (DataW H)) (ps : List MemPlace), (∀ t ∈ ts, P.readableRec t = true ∧ t < P.types.size) → DataW.TrodAll enc P W 0 (fun _ => true) true ts vs ds ps → (∀ x ∈ ps, x.block < W.heap.size) →
      DataW.TrodAll enc P W' 0 (fun b => decide (b < W.heap.size)) true ts vs ds ps
  | [], _, _, _, _, h, _ => by
    obtain ⟨rfl, rfl, rfl⟩ := trodAll_nil h
    exact trodAll_mk0
  | t :: ts, _, _, _, hr, h, hlt => by
    obtain ⟨v, vs', d, ds', p, q, rfl, rfl, rfl, h1, h2⟩ := trodAll_cons h
    have ht := hr t (by simp)
    exact trodAll_cons_mk (Below.trod hl ht.1 ht.2 h1 hb (fun x hx => hlt x (by simp [hx]))) (trodAll_below hl hb ts vs' ds' q (fun t' h' => hr t' (by simp [h'])) h2 (fun x hx => hlt x (by simp [hx])))
theorem law_post {H : Type} {enc : TypeId × Value → H} {f : Func} {s : ChangeSpec} (tb : TypeId) {W W' : World} {args : Array Value} {ds gs : List (DataW H)} {before : List MemPlace}
    (hread : ∀ t ∈ f.params.toList, Tryz.prog.readableRec t = true ∧ t < Tryz.prog.types.size) (hrt : f.resultTypes = #[tb]) (hub : Tryz.prog.underlying tb = some .bool) (hv : s.vars = [])
    (hW : DataW.Whole enc Tryz.prog f.params.toList s.vars false W args.toList ds gs before) (hr : (s.fn H (ds ++ gs)).results = [.lit (.bool true)]) (ha : (s.fn H (ds ++ gs)).args = ds) (hvs : (s.fn H (ds ++ gs)).vars = [])
    (hb : Below W.heap.size W W') : s.post enc Tryz.prog f false true false false W args (.bool true) W' := by
  have hlt := hW.lt
  have hW' := hW
  obtain ⟨p, q, hA, hV, rfl, hfz, hnd⟩ := hW
  rw [hv] at hV
  obtain ⟨rfl, rfl⟩ := trodVars_none hV
  refine ⟨_, _, _, [], p, [], hW', ?_, ?_, ?_, hb.frame _, fun h => by cases h⟩
  · rw [hr, hrt]
    exact trodAll_mk1 (shut_bool hub true)
  · rw [ha]
    exact trodAll_below Tryz.laidOut hb _ _ _ _ hread hA (fun x hx => by simpa using hlt x (by simp [hx]))
  · rw [hvs, hv]
    rfl
theorem wf_u32b {n : Int} (h : (Lit.int .u32 n).wf = true) : 0 ≤ n ∧ n < 4294967296 := by
  have hm : IntKind.u32.min = 0 := by decide
  have hx : IntKind.u32.max = 4294967295 := by decide
  have := h
  simp [Lit.wf, hm, hx] at this
  omega
end Go.Proofs.YtoladolgmeanhaaGreat

/- A slice that comes in as an argument, of elements of any kind that can be opened: what it reads as. -/
namespace Go.Proofs.YtoladolgmeanhaaGreat
open Go.ChangeShapes Go.WideShapes Go.ChangeAt Go.RowKit Go.Joins Go.Deep

end Go.Proofs.YtoladolgmeanhaaGreat

/- Slices of pixels and of bytes that come in as arguments. -/
namespace Go.Proofs.YtoladolgmeanhaaGreat
open Go.ChangeShapes Go.WideShapes Go.ChangeAt Go.RowKit Go.Joins Go.Deep

end Go.Proofs.YtoladolgmeanhaaGreat

/- codec: a picture that comes in as an argument. -/
namespace Go.Proofs.YtoladolgmeanhaaGreat
open Go.ChangeShapes Go.WideShapes Go.ChangeAt Go.RowKit Go.Joins Go.Deep

end Go.Proofs.YtoladolgmeanhaaGreat
