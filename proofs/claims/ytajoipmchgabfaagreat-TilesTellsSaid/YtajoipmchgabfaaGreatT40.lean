/- Several texts in one, each with its own head. -/
import Derived.Test.YtajoipmchgabfaaGreatT37
import Derived.Test.YtajoipmchgabfaaGreatT36
import Derived.Test.YtajoipmchgabfaaGreatT23
import Derived.Test.YtajoipmchgabfaaGreatT39
import Derived.Test.YtajoipmchgabfaaGreatT28
import Derived.Test.YtajoipmchgabfaaGreatT25
/- tiles: closed cases. -/
namespace Go.Proofs.YtajoipmchgabfaaGreat
open Go.RowKit

theorem form_one {r : Rc} (hr : emptyR r = false) : formL (fun p _ => p) [r] [] = [r] := by
  have h := form_canon (mf := fun p _ => p) rfl (a := [r]) (b := []) (bs := [[r]]) ⟨⟨r.y, r.b, ⟨by simp, ⟨by have := emptyR_false.1 hr; omega, by simp, trivial⟩, by have := emptyR_false.1 hr; omega, by simp⟩, by simp⟩, by simp, trivial⟩ (by simpa using hr) (fun x y => by simp)
  unfold formL
  rw [h]
  rfl
theorem tq1 : eqRs (grL 20 16) [⟨0, 0, 16, 16⟩, ⟨16, 0, 4, 16⟩] = true := by decide +kernel
theorem eqRs_to {xs ys : List Rc} (h : eqRs xs ys = true) : xs = ys := eqRs_iff.1 h
theorem tq_w : wiL 20 16 [⟨15, 0, 2, 1⟩] = [⟨15, 0, 2, 1⟩] := eqRs_to (by decide +kernel)
theorem tq_p : ptL 20 16 [⟨15, 0, 2, 1⟩] = [⟨15, 0, 2, 1⟩] := by
  unfold ptL
  rw [tq_w, form_one (by decide)]
theorem tq2 : tcL 20 16 [⟨15, 0, 2, 1⟩] = [0, 1] := by
  unfold tcL
  rw [tq_p]
  decide +kernel
theorem tq3 : eqRs (spL 20 16 [⟨15, 0, 2, 1⟩]) [⟨15, 0, 1, 1⟩, ⟨16, 0, 1, 1⟩] = true := by
  unfold spL
  rw [tq_p, show tlN 20 16 = 2 by decide, show List.range 2 = [0, 1] from rfl, List.flatMap_cons, List.flatMap_cons, List.flatMap_nil]
  unfold fmN
  rw [eqRs_to (show eqRs (ofN (pcsL 20 16 [⟨15, 0, 2, 1⟩]) 0) [⟨15, 0, 1, 1⟩] = true by decide +kernel), eqRs_to (show eqRs (ofN (pcsL 20 16 [⟨15, 0, 2, 1⟩]) 1) [⟨16, 0, 1, 1⟩] = true by decide +kernel), form_one (by decide), form_one (by decide)]
  decide

def encI (z : Nat) : List Value := [intV z]
theorem RowAt.natI {W : World} {p : Option Addr} {xs : List Nat} (h : RowAt encI 1 W p xs) {k : Nat} (hk : k < xs.length) : ∃ b off, p = some ⟨b, off, none⟩ ∧ W.cell? ⟨b, off + k, none⟩ = some (.int .i64 (xs[k] : Int)) := by
  rcases h with ⟨_, rfl⟩ | ⟨b, off, rfl, hb, hc⟩
  · simp at hk
  · refine ⟨b, off, rfl, ?_⟩
    have h1 := hc k xs[k] (List.getElem?_eq_getElem hk) 0 (.int .i64 (xs[k] : Int)) rfl
    simpa using h1
theorem Row.ownI {w : World} {base : Nat} {v : Value} {l : List Nat} (h : w.ownsRow base 3 1 v l.length (l.map intV)) : Row encI 1 w v l := by
  have e : l.flatMap encI = l.map intV := by
    clear h
    induction l with
    | nil => rfl
    | cons a l ih => rw [List.flatMap_cons, ih]; rfl
  exact owns_row' (enc := encI) (k := 1) (fun _ => rfl) (by rw [e]; exact h)

set_option maxHeartbeats 1000000 in
theorem ints_any (v u : Value) (xs ys : List Nat) (w : World) (hv : Row encI 1 w v xs) (hu : Row encI 1 w u ys) :
    Makes Tryz.prog 8 #[v, u] w (.bool (decide (xs = ys))) := by
  unfold Makes
  have hn := hv.len
  have hm := hu.len
  obtain ⟨p, cap, rfl, -, -, hp⟩ := hv
  obtain ⟨q, cap2, rfl, -, -, hq⟩ := hu
  by_cases hl : xs.length = ys.length
  · have hl1 : ((xs.length : Int) != (ys.length : Int)) = false := by simp [hl]
    have Hl := Lib.hid hl
    clear hl
    go_enter Tryz.func8, Tryz.ntmps8
    go_wp2
    go_loopw [5] (fun i wr => ∃ k : Nat, k ≤ xs.length ∧ i = .int .i64 k ∧ Below w.heap.size w wr ∧ Hid (xs.take k = ys.take k)) (fun i _ => xs.length - (intOf i).toNat)
    case atStart => exact ⟨0, by omega, rfl, Below.refl _ _, Lib.hid rfl⟩
    case round =>
      obtain ⟨k, hk, rfl, hb, he⟩ := hrel
      by_cases hlt : k < xs.length
      · have hlt2 : k < ys.length := by rw [← Hl.out]; exact hlt
        obtain ⟨b, off, rfl, a0⟩ := (hp.below hb).natI hlt
        obtain ⟨b2, off2, rfl, d0⟩ := (hq.below hb).natI hlt2
        have Hx := Lib.hid (List.take_succ_eq_append_getElem hlt)
        have Hy := Lib.hid (List.take_succ_eq_append_getElem hlt2)
        have Hne : Hid (xs[k] ≠ ys[k] → xs ≠ ys) := Lib.hid (fun h e => h (by subst e; rfl))
        generalize xs[k] = r at *
        generalize ys[k] = s at *
        by_cases hr : r = s
        · have hr1 : ((r : Int) != (s : Int)) = false := by simp [hr]
          have Hr := Lib.hid hr
          clear hr
          go_wp2
          go_quiet (fail)
          go_wp2
          go_roundw
          case rel => exact ⟨k + 1, by omega, by go_num, Below.drewN' hb _, Lib.hid (by rw [Hx.out, Hy.out, he.out, Hr.out])⟩
          case measure => simp [intOf]; omega
        · have hr1 : ((r : Int) != (s : Int)) = true := by simp; omega
          have Hr := Lib.hid hr
          clear hr
          go_wp2
          go_quiet (fail)
          go_wp2
          go_ret
          exact ⟨ret_bool (decide_eq_false (Hne.out Hr.out)).symm, Below.drewN' hb _⟩
      · go_wp2
        go_ret
        refine ⟨ret_bool (decide_eq_true ?_).symm, hb⟩
        have h1 := he.out
        rwa [List.take_of_length_le (by omega), List.take_of_length_le (by rw [← Hl.out]; omega)] at h1
  · have hl1 : ((xs.length : Int) != (ys.length : Int)) = true := by simp; omega
    have Hl := Lib.hid hl
    clear hl
    go_enter Tryz.func8, Tryz.ntmps8
    go_wp2
    go_ret
    exact ⟨ret_bool (decide_eq_false (fun e => Hl.out (by rw [e]))).symm, Below.refl _ _⟩

theorem litR {w : World} {l : List Rc} {c : Array Value} {t : TypeId} {n : Nat} (hc : c.toList = flatR l) (hn : n = l.length) (hm : l.length ≤ maxLen) : Row encR 4 (w.alloc (.cells c t)) (.slice (some ⟨w.heap.size, 0, none⟩) n n) l := by
  subst hn
  refine ⟨_, _, rfl, Nat.le_refl _, hm, .inr ⟨_, _, rfl, by simp, fun i x hi j u hj => ?_⟩⟩
  have hj4 : j < 4 := by
    have := (List.getElem?_eq_some_iff.1 hj).1
    simpa [encR] using this
  have h1 := flat_at' (enc := encR) (k := 4) (fun _ => rfl) l i j hj4
  rw [hi] at h1
  refine cell_at rfl ?_
  rw [Nat.zero_add, ← Array.getElem?_toList, hc]
  exact h1.trans hj
theorem litI {w : World} {l : List Nat} {c : Array Value} {t : TypeId} {n : Nat} (hc : c.toList = l.map intV) (hn : n = l.length) (hm : l.length ≤ maxLen) : Row encI 1 (w.alloc (.cells c t)) (.slice (some ⟨w.heap.size, 0, none⟩) n n) l := by
  subst hn
  refine ⟨_, _, rfl, Nat.le_refl _, hm, .inr ⟨_, _, rfl, by simp, fun i x hi j u hj => ?_⟩⟩
  have hj0 : j = 0 := by
    have := (List.getElem?_eq_some_iff.1 hj).1
    simp [encI] at this
    omega
  subst hj0
  refine cell_at rfl ?_
  rw [← Array.getElem?_toList, hc, List.getElem?_map]
  simp [encI] at hj
  simp [hi, hj]

set_option maxRecDepth 20000 in
set_option maxHeartbeats 1000000 in
theorem tlWakes_any (W : World) : Makes Tryz.prog 4 #[] W (.bool true) := by
  unfold Makes
  have hf : ∀ r ∈ ([⟨15, 0, 2, 1⟩] : List Rc), Fit r := fun r hr => by
    rcases List.mem_cons.1 hr with rfl | hr
    · exact full_fit (by decide)
    · cases hr
  have e20 : szW 20 16 = 20 ∧ szH 20 16 = 16 := by decide
  go_enter Tryz.func4, Tryz.ntmps4
  go_upto_region 2 with (fail)
  have hl : Row encR 4 (W.alloc (.cells #[.int .i64 15, .int .i64 0, .int .i64 2, .int .i64 1] 37)) (.slice (some ⟨W.heap.size, 0, none⟩) 1 1) [⟨15, 0, 2, 1⟩] := litR rfl rfl (by decide)
  have hb1 := Below.al1 W (.cells #[.int .i64 15, .int .i64 0, .int .i64 2, .int .i64 1] 37)
  generalize W.alloc (.cells #[.int .i64 15, .int .i64 0, .int .i64 2, .int .i64 1] 37) = w1 at *
  have Hl := Lib.hid hl
  have Hb1 := Lib.hid hb1
  clear hl hb1
  go_wp2_with fail
  refine Calls.mono (grid_any 20 16 w1) ?_
  rw [e20.1, e20.2]
  rintro _ w2 ⟨v2, rfl, ho2, hb2⟩
  have Ho2 := Lib.hid ho2
  have Hb2 := Lib.hid hb2
  clear ho2 hb2
  go_wp2_with fail
  have hx2 := (Turns.of_below' (T := fun _ => False) (Below.al1 w2 (.cells #[.int .i64 0, .int .i64 0, .int .i64 16, .int .i64 16, .int .i64 16, .int .i64 0, .int .i64 4, .int .i64 16] 37))).owns Ho2.out (fun _ _ h => h)
  have hy2 : Row encR 4 (w2.alloc (.cells #[.int .i64 0, .int .i64 0, .int .i64 16, .int .i64 16, .int .i64 16, .int .i64 0, .int .i64 4, .int .i64 16] 37)) (.slice (some ⟨w2.heap.size, 0, none⟩) 2 2) [⟨0, 0, 16, 16⟩, ⟨16, 0, 4, 16⟩] := litR rfl rfl (by decide)
  have Hb3 := Lib.hid (Below.thn Hb2.out (Below.al1 w2 (.cells #[.int .i64 0, .int .i64 0, .int .i64 16, .int .i64 16, .int .i64 16, .int .i64 0, .int .i64 4, .int .i64 16] 37)))
  generalize w2.alloc (.cells #[.int .i64 0, .int .i64 0, .int .i64 16, .int .i64 16, .int .i64 16, .int .i64 0, .int .i64 4, .int .i64 16] 37) = w3 at *
  refine Calls.mono (refRects_any v2 _ _ _ w3 (owns_row' (enc := encR) (k := 4) (fun _ => rfl) hx2) hy2) ?_
  rw [tq1]
  rintro _ w4 ⟨rfl, hb4⟩
  have Hb4 := Lib.hid (Below.thn Hb3.out hb4)
  clear hb4 hx2 hy2 Hb3 Ho2 Hb2
  go_wp2_with fail
  refine Calls.mono (touched_any _ _ 20 16 w4 (Hl.out.below Hb4.out) hf (by decide)) ?_
  rw [e20.1, e20.2, tq2]
  rintro _ w5 ⟨v5, rfl, ho5, hb5⟩
  have Ho5 := Lib.hid ho5
  have Hb5 := Lib.hid (Below.thn Hb4.out hb5)
  clear ho5 hb5 Hb4
  go_wp2_with fail
  have hx5 := (Turns.of_below' (T := fun _ => False) (Below.al1 w5 (.cells #[.int .i64 0, .int .i64 1] 3))).owns Ho5.out (fun _ _ h => h)
  have hy5 : Row encI 1 (w5.alloc (.cells #[.int .i64 0, .int .i64 1] 3)) (.slice (some ⟨w5.heap.size, 0, none⟩) 2 2) [0, 1] := litI rfl rfl (by decide)
  have Hb6 := Lib.hid (Below.thn Hb5.out (Below.al1 w5 (.cells #[.int .i64 0, .int .i64 1] 3)))
  generalize w5.alloc (.cells #[.int .i64 0, .int .i64 1] 3) = w6 at *
  refine Calls.mono (ints_any v5 _ _ _ w6 (Row.ownI hx5) hy5) ?_
  rw [show decide ([0, 1] = ([0, 1] : List Nat)) = true from rfl]
  rintro _ w7 ⟨rfl, hb7⟩
  have Hb7 := Lib.hid (Below.thn Hb6.out hb7)
  clear hb7 hx5 hy5 Hb6 Ho5 Hb5
  go_wp2_with fail
  refine Calls.mono (split_any _ _ 20 16 w7 (Hl.out.below Hb7.out) hf (by decide)) ?_
  rw [e20.1, e20.2]
  rintro _ w8 ⟨v8, rfl, ho8, hb8⟩
  have Ho8 := Lib.hid ho8
  have Hb8 := Lib.hid (Below.thn Hb7.out hb8)
  clear ho8 hb8 Hb7
  go_wp2_with fail
  have hx8 := (Turns.of_below' (T := fun _ => False) (Below.al1 w8 (.cells #[.int .i64 15, .int .i64 0, .int .i64 1, .int .i64 1, .int .i64 16, .int .i64 0, .int .i64 1, .int .i64 1] 37))).owns Ho8.out (fun _ _ h => h)
  have hy8 : Row encR 4 (w8.alloc (.cells #[.int .i64 15, .int .i64 0, .int .i64 1, .int .i64 1, .int .i64 16, .int .i64 0, .int .i64 1, .int .i64 1] 37)) (.slice (some ⟨w8.heap.size, 0, none⟩) 2 2) [⟨15, 0, 1, 1⟩, ⟨16, 0, 1, 1⟩] := litR rfl rfl (by decide)
  have Hb9 := Lib.hid (Below.thn Hb8.out (Below.al1 w8 (.cells #[.int .i64 15, .int .i64 0, .int .i64 1, .int .i64 1, .int .i64 16, .int .i64 0, .int .i64 1, .int .i64 1] 37)))
  generalize w8.alloc (.cells #[.int .i64 15, .int .i64 0, .int .i64 1, .int .i64 1, .int .i64 16, .int .i64 0, .int .i64 1, .int .i64 1] 37) = w9 at *
  refine Calls.mono (refRects_any v8 _ _ _ w9 (owns_row' (enc := encR) (k := 4) (fun _ => rfl) hx8) hy8) ?_
  rw [tq3]
  rintro _ w10 ⟨rfl, hb10⟩
  have Hb10 := Lib.hid (Below.thn Hb9.out hb10)
  clear hb10 hx8 hy8 Hb9 Ho8 Hb8
  go_wp2_with fail
  have hi10 := World.alloc_heap_new w10 (.cells #[.int .u32 0] 38)
  have hb11 := Below.al1 w10 (.cells #[.int .u32 0] 38)
  have Hb11 := Lib.hid (Below.thn Hb10.out hb11)
  generalize w10.alloc (.cells #[.int .u32 0] 38) = w11 at *
  have hrow : RowAt encW 1 w11 (some ⟨w10.heap.size, 0, none⟩) [0] := .inr ⟨_, _, rfl, lt_heapT hi10, fun i x hi j u hj => by
    obtain rfl : i = 0 := by have := (List.getElem?_eq_some_iff.1 hi).1; simp at this; omega
    simp at hi
    subst hi
    obtain rfl : j = 0 := by have := (List.getElem?_eq_some_iff.1 hj).1; simp [encW] at this; omega
    simp [encW] at hj
    subst hj
    exact cell_heapT hi10 rfl⟩
  refine Calls.mono (sums_any 1 1 _ 1 1 [0] w11 hrow rfl (by decide) (by decide)) ?_
  rintro _ w12 ⟨v12, rfl, ho12, hb12⟩
  have hs1 : (smL 1 1 [0]).length = 1 := by
    unfold smL
    rw [if_pos (by decide), List.length_map, List.length_range]
    decide
  rw [hs1] at ho12
  obtain ⟨p12, c12, rfl⟩ := owns_slice ho12
  have Hb12 := Lib.hid (Below.thn Hb1.out (Below.thn Hb11.out hb12))
  clear ho12 hb12 hs1 hrow hi10 hb11
  go_wp2
  go_ret
  exact ⟨rfl, Hb12.out⟩

end Go.Proofs.YtajoipmchgabfaaGreat

/- tiles: the document's Touched. -/
namespace Go.Proofs.YtajoipmchgabfaaGreat
open Go.RowKit

theorem some_pix {r : Rc} (h : emptyR r = false) : hasR r r.x r.y = true := by
  have h1 := emptyR_false.1 h
  exact has_iff.2 ⟨h, by omega, by omega⟩
/-- A tile is touched where it has something of one of the rectangles. -/
theorem tch_any {pw ph : Nat} (hw : pw ≤ 256) (hh : ph ≤ 256) (l : List Rc) {i : Nat} (hi : i < tlN pw ph) : (l.any fun r => !emptyR (andR (tlR pw ph i) r)) = tchB pw ph l i := by
  rw [Bool.eq_iff_iff, tch_iff hw hh l hi, List.any_eq_true]
  constructor
  · rintro ⟨r, hr, he⟩
    have he' : emptyR (andR (tlR pw ph i) r) = false := by simpa using he
    have h1 := some_pix he'
    rw [has_and, Bool.and_eq_true] at h1
    exact ⟨_, _, pix_iff.2 ⟨r, hr, h1.2⟩, h1.1⟩
  · rintro ⟨x, y, h1, h2⟩
    obtain ⟨r, hr, h3⟩ := pix_iff.1 h1
    refine ⟨r, hr, ?_⟩
    have h4 : hasR (andR (tlR pw ph i) r) x y = true := by rw [has_and, h2, h3]; rfl
    simp [(has_iff.1 h4).1]
/-- Those of the first tiles that are touched. -/
def tcF (pw ph : Nat) (l : List Rc) (i : Nat) : List Nat := (List.range i).filter (tchB pw ph l)
theorem tcF_all (pw ph : Nat) (l : List Rc) : tcF pw ph l (tlN pw ph) = tcL pw ph l := by rw [tcL_eq]; rfl
theorem tcF_yes {pw ph : Nat} {l : List Rc} {i : Nat} (h : tchB pw ph l i = true) : tcF pw ph l (i + 1) = tcF pw ph l i ++ [i] := by
  unfold tcF
  rw [List.range_succ, List.filter_append]
  simp [h]
theorem tcF_no {pw ph : Nat} {l : List Rc} {i : Nat} (h : tchB pw ph l i = false) : tcF pw ph l (i + 1) = tcF pw ph l i := by
  unfold tcF
  rw [List.range_succ, List.filter_append]
  simp [h]
theorem tcF_len (pw ph : Nat) (l : List Rc) (i : Nat) : (tcF pw ph l i).length ≤ i := by
  have h := List.length_filter_le (tchB pw ph l) (List.range i)
  rw [List.length_range] at h
  exact h
theorem any_take {f : Rc → Bool} {l : List Rc} {k : Nat} (h : k < l.length) : (l.take (k + 1)).any f = ((l.take k).any f || f l[k]) := by
  rw [List.take_succ_eq_append_getElem h, List.any_append]
  simp
theorem intV_one (i : Nat) : ∀ u ∈ [intV i], u.oneCell' = true := fun u h => by
  rcases List.mem_cons.1 h with rfl | h
  · rfl
  · cases h

set_option maxRecDepth 20000 in
set_option maxHeartbeats 4000000 in
theorem refTouched_any (v : Value) (l : List Rc) (w h : Int) (W : World) (hv : Row encR 4 W v l) (hl : l.length ≤ 1048576) :
    Calls Tryz.prog 10 #[v, .int .i64 w, .int .i64 h] W fun e w' => ∃ v', e = .returned v' ∧ w'.ownsRow W.heap.size 3 1 v' (tcL (szW w h) (szH w h) l).length ((tcL (szW w h) (szH w h) l).map intV) ∧ Below W.heap.size W w' := by
  obtain ⟨i0, hi0, hz0, hz1, hz2⟩ := info_parts int_info
  have hpw := szW_le w h
  have hph := szH_le w h
  have hgr := fun W => refGrid_any w h W
  obtain ⟨pw, hpwe⟩ : ∃ p, szW w h = p := ⟨_, rfl⟩
  obtain ⟨ph, hphe⟩ : ∃ p, szH w h = p := ⟨_, rfl⟩
  rw [hpwe] at hpw hgr ⊢
  rw [hphe] at hph hgr ⊢
  clear hpwe hphe
  have hgl : (grL pw ph).length = tlN pw ph := by unfold grL; simp
  have hgf : ∀ i (hi : i < (grL pw ph).length), (grL pw ph)[i] = tlR pw ph i := fun i hi => by simp [grL]
  have hN256 := tlN_le hpw hph
  rw [← tcF_all]
  obtain ⟨N, hN⟩ : ∃ N, tlN pw ph = N := ⟨_, rfl⟩
  rw [hN] at hgl hN256 ⊢
  rw [hgl] at hgr
  have Hgf : Hid ((grL pw ph).length = N ∧ ∀ i (hi : i < (grL pw ph).length), (grL pw ph)[i] = tlR pw ph i) := Lib.hid ⟨hgl, hgf⟩
  have Htc : Hid (∀ i, i < N → (l.any fun r => !emptyR (andR (tlR pw ph i) r)) = tchB pw ph l i) := Lib.hid (fun i hi => tch_any hpw hph l (by rw [hN]; exact hi))
  have Hgr := Lib.hid hgr
  obtain ⟨p, c, rfl, hc1, hc2, hp⟩ := hv
  obtain ⟨L, hL⟩ : ∃ L, l.length = L := ⟨_, rfl⟩
  rw [hL] at hc1 hl ⊢
  have HL := Lib.hid hL
  have Hp := Lib.hid hp
  clear hgl hgf hgr hN hL hp
  go_enter Tryz.func10, Tryz.ntmps10
  go_wp2_with fail
  refine Calls.mono (Hgr.out W) ?_
  rintro _ w1 ⟨v1, rfl, ho1, hb1⟩
  obtain ⟨p1, c1, rfl, hg1, hg1', hp1⟩ := owns_row' (enc := encR) (k := 4) (fun _ => rfl) (by rw [Hgf.out.1]; exact ho1)
  rw [Hgf.out.1] at hg1 ⊢
  have Hp1 := Lib.hid hp1
  have Hl1 := Lib.hid (Hp.out.below hb1)
  have Hb1 := Lib.hid hb1
  clear ho1 hb1 hp1
  go_wp2_with fail
  go_loopw [7, 9, 10, 11] (fun ov iv _ _ wr => ∃ (i n : Nat) (pv : Option Addr) (cv : Nat), i ≤ N ∧ iv = .int .i64 (i : Int) ∧ n ≤ i ∧ ov = .slice pv n cv ∧ Hid (n = (tcF pw ph l i).length) ∧ Hid (wr.ownsRow w1.heap.size 3 1 (.slice pv n cv) n ((tcF pw ph l i).map intV)) ∧ Hid (Below w1.heap.size w1 wr)) (fun _ iv _ _ _ => N - (intOf iv).toNat)
  case atStart => exact ⟨0, 0, none, 0, Nat.zero_le _, rfl, Nat.zero_le _, rfl, Lib.hid rfl, Lib.hid (World.ownsRow_nil _ _ _ _), Lib.hid (Below.refl _ _)⟩
  case round =>
    obtain ⟨i, n, pv, cv, hi, rfl, hni, rfl, Hn, Ho, Hb⟩ := hrel
    by_cases hin : i < N
    · have di : decide ((i : Int) < (N : Int)) = true := by simp; omega
      go_wp2_with fail
      go_loopw [10, 11] (fun sv kv wr2 => ∃ (k : Nat) (bv : Bool), k ≤ L ∧ kv = .int .i64 (k : Int) ∧ sv = .bool bv ∧ Hid (bv = (l.take k).any fun r => !emptyR (andR (tlR pw ph i) r)) ∧ Hid (Below wr.heap.size wr wr2)) (fun _ kv _ => L - (intOf kv).toNat)
      case atStart => exact ⟨0, false, Nat.zero_le _, rfl, rfl, Lib.hid rfl, Lib.hid (Below.refl _ _)⟩
      case round =>
        obtain ⟨k, bv, hk, rfl, rfl, Hbv, Hb2⟩ := hrel
        by_cases hkl : k < L
        · have dk : decide ((k : Int) < (L : Int)) = true := by simp; omega
          have hkl' : k < l.length := by rw [HL.out]; exact hkl
          have hil : i < (grL pw ph).length := by rw [Hgf.out.1]; exact hin
          have hsucc := any_take (f := fun r => !emptyR (andR (tlR pw ph i) r)) hkl'
          rw [← Hbv.out] at hsucc
          have hbl := Below.thn Hb.out Hb2.out
          obtain ⟨bg, og, rfl, -, hat⟩ := Hp1.out.rc hil
          obtain ⟨g0, g1, g2, g3⟩ := (hat i hil).later hbl
          rw [Hgf.out.2 i hil] at g0 g1 g2 g3
          obtain ⟨bl, ol, rfl, -, hat2⟩ := Hl1.out.rc hkl'
          obtain ⟨l0, l1, l2, l3⟩ := (hat2 k hkl').later hbl
          obtain ⟨T, hT⟩ : ∃ T, tlR pw ph i = T := ⟨_, rfl⟩
          obtain ⟨X, hX⟩ : ∃ X, l[k] = X := ⟨_, rfl⟩
          rw [hX] at l0 l1 l2 l3
          rw [hT] at g0 g1 g2 g3
          have hand := fun u => rand_any T X u
          have hemp := fun u => rempty_any (andR T X) u
          rw [hT, hX] at hsucc
          obtain ⟨A, hA⟩ : ∃ A, andR T X = A := ⟨_, rfl⟩
          rw [hA] at hand hemp hsucc
          obtain ⟨e, he⟩ : ∃ e, emptyR A = e := ⟨_, rfl⟩
          rw [he] at hemp hsucc
          have Hand := Lib.hid hand
          have Hemp := Lib.hid hemp
          have j0 : (0 : Int) ≤ (i : Int) := by omega
          have j1 : (i : Int) < (N : Int) := by omega
          have j2 : (0 : Int) ≤ (k : Int) := by omega
          have j3 : (k : Int) < (L : Int) := by omega
          have Hsucc : Hid ((bv || !e) = (l.take (k + 1)).any fun r => !emptyR (andR (tlR pw ph i) r)) := Lib.hid (by rw [hT]; exact hsucc.symm)
          clear hat hat2 hil hkl' hbl hsucc hT hX hA he hand hemp
          go_upto_region 10 with (fail)
          have hq := After.ne wr
          have R0 := After.rule g0
          have R1 := After.rule g1
          have R2 := After.rule g2
          have R3 := After.rule g3
          have R4 := After.rule l0
          have R5 := After.rule l1
          have R6 := After.rule l2
          have R7 := After.rule l3
          clear g0 g1 g2 g3 l0 l1 l2 l3
          cases bv
          all_goals
            refine wp_region_in ⟨wr, Below.refl _ _⟩ (by kernel_rfl) (by kernel_rfl) ?_
            repeat (first
              | (go_big_quiet_step ((first | (go_at_call 17; exact Makes.after (Hand.out _)) | (go_at_call 21; exact Makes.after (Hemp.out _)))))
              | (refine ⟨_, fun _ => rfl, ?_⟩; go_big_quiet_on))
            refine wpQuiet_nil ?_
            rintro _ ⟨n1, rfl⟩
            have Hb3 := Lib.hid (Below.thn Hb2.out n1.below)
            clear hq R0 R1 R2 R3 R4 R5 R6 R7
            go_wp2
            go_roundw
            case rel => exact ⟨k + 1, _, by omega, by go_num, rfl, Hsucc, Hb3⟩
            case measure => simp [intOf]; omega
        · obtain rfl : L = k := by omega
          have dk : decide ((L : Int) < (L : Int)) = false := by simp
          have hbv : bv = tchB pw ph l i := by
            rw [Hbv.out, List.take_of_length_le (by rw [HL.out]; exact Nat.le_refl _)]
            exact Htc.out i hin
          have Ho2 := Lib.hid ((Turns.of_below' (T := fun _ => False) Hb2.out).owns Ho.out (fun _ _ h => h))
          have Hb3 := Lib.hid (Below.thn Hb.out Hb2.out)
          have hs3 := Hb3.out.size
          cases bv with
          | false =>
            have e1 := tcF_no hbv.symm
            have Hn' : Hid (n = (tcF pw ph l (i + 1)).length) := Lib.hid (by rw [e1]; exact Hn.out)
            rw [← e1] at Ho2
            clear e1 hbv
            go_wp2
            go_roundw
            case rel => exact ⟨i + 1, n, _, _, by omega, by go_num, by omega, rfl, Hn', Ho2, Hb3⟩
            case measure => simp [intOf]; omega
          | true =>
            have Hsucc := Lib.hid (tcF_yes hbv.symm)
            clear hbv
            go_wp2_with (at_builtin; refine wpList_append_mine _ rfl (.tmp 42) (.tmp 44) 30 rfl w1.heap.size 3 i0 _ 1 8 Tryz.underlying30 hi0 hz0 hz1 hz2 rfl (by decide) (.slice pv n cv) n ((tcF pw ph l i).map intV) rfl (Ho2.out.alloc _) (some ⟨wr.heap.size, 0, none⟩) 1 1 [intV i] rfl rfl ?n1 ?n2 ?n3 ?n4 ?n5 ?_)
            case n1 => exact .inr (src_new rfl)
            case n2 => exact intV_one i
            case n3 => simp only [maxLen]; omega
            case n4 => omega
            case n5 => simp; omega
            intro v8 w9 r8 gr8 pl8
            have ht8 : Turns (fun q => (Value.slice pv n cv).ownBlock = some q) (wr.alloc (.cells #[.int .i64 (i : Int)] 3)) w9 := Turns.of_grown gr8 (fun i h => h)
            have Hb8 := Lib.hid (show Below w1.heap.size w1 w9 from (Below.thn Hb3.out (Below.al1 wr _)).trans (ht8.below (by simp; omega) (fun q hq => (Ho2.out.lt q hq).1)))
            obtain ⟨p9, c9, rfl⟩ := owns_slice r8
            have Hr8 : Hid (w9.ownsRow w1.heap.size 3 1 (.slice p9 (n + 1) c9) (n + 1) ((tcF pw ph l (i + 1)).map intV)) := Lib.hid (by
              rw [Hsucc.out, List.map_append]
              exact r8)
            have Hn8 : Hid (n + 1 = (tcF pw ph l (i + 1)).length) := Lib.hid (by rw [Hsucc.out, List.length_append, ← Hn.out]; rfl)
            clear r8 gr8 pl8 ht8
            go_wp2
            go_roundw
            case rel => exact ⟨i + 1, n + 1, _, _, by omega, by go_num, by omega, rfl, Hn8, Hr8, Hb8⟩
            case measure => simp [intOf]; omega
    · obtain rfl : N = i := by omega
      have di : decide ((N : Int) < (N : Int)) = false := by simp
      have hfin := own_less Ho.out Hb1.out.size
      have hbf := Below.thn Hb1.out Hb.out
      have hn := Hn.out
      subst hn
      have Hfin := Lib.hid hfin
      have Hbf := Lib.hid hbf
      clear hfin hbf
      go_wp2
      go_ret
      exact ⟨_, rfl, Hfin.out, Hbf.out⟩

end Go.Proofs.YtajoipmchgabfaaGreat
