/- Several texts in one, each with its own head. -/
import Derived.Test.YtajoipmchgabfaaM34
import Derived.Test.YtajoipmchgabfaaM35
import Derived.Test.YtajoipmchgabfaaM25
import Derived.Test.YtajoipmchgabfaaM37
import Derived.Test.YtajoipmchgabfaaM27
/- tiles: closed cases. -/
namespace Go.Proofs.Ytajoipmchgabfaa
open Go.RowKit

theorem form_one {r : Rc} (hr : emptyR r = false) : formL (fun p _ => p) [r] [] = [r] := by
  have h := form_canon (mf := fun p _ => p) rfl (a := [r]) (b := []) (bs := [[r]]) ⟨⟨r.y, r.b, ⟨by simp, ⟨by have := emptyR_false.1 hr; omega, by simp, trivial⟩, by have := emptyR_false.1 hr; omega, by simp⟩, by simp⟩, by simp, trivial⟩ (by simpa using hr) (fun x y => by simp)
  unfold formL
  rw [h]
  rfl
theorem tq1 : eqRs (grL 20 16) [⟨0, 0, 16, 16⟩, ⟨16, 0, 4, 16⟩] = true := by decide +kernel
theorem eqRs_to {xs ys : List Rc} (h : eqRs xs ys = true) : xs = ys := eqRs_iff.1 h
theorem tq_w : wiL 20 16 [⟨15, 0, 2, 1⟩] = [⟨15, 0, 2, 1⟩] := eqRs_to (by decide +kernel)
theorem tq_p : ptL 20 16 [⟨15, 0, 2, 1⟩] = [⟨15, 0, 2, 1⟩] := by
  unfold ptL
  rw [tq_w, form_one (by decide)]
theorem tq2 : tcL 20 16 [⟨15, 0, 2, 1⟩] = [0, 1] := by
  unfold tcL
  rw [tq_p]
  decide +kernel
theorem tq3 : eqRs (spL 20 16 [⟨15, 0, 2, 1⟩]) [⟨15, 0, 1, 1⟩, ⟨16, 0, 1, 1⟩] = true := by
  unfold spL
  rw [tq_p, show tlN 20 16 = 2 by decide, show List.range 2 = [0, 1] from rfl, List.flatMap_cons, List.flatMap_cons, List.flatMap_nil]
  unfold fmN
  rw [eqRs_to (show eqRs (ofN (pcsL 20 16 [⟨15, 0, 2, 1⟩]) 0) [⟨15, 0, 1, 1⟩] = true by decide +kernel), eqRs_to (show eqRs (ofN (pcsL 20 16 [⟨15, 0, 2, 1⟩]) 1) [⟨16, 0, 1, 1⟩] = true by decide +kernel), form_one (by decide), form_one (by decide)]
  decide

def encI (z : Nat) : List Value := [intV z]
theorem RowAt.natI {W : World} {p : Option Addr} {xs : List Nat} (h : RowAt encI 1 W p xs) {k : Nat} (hk : k < xs.length) : ∃ b off, p = some ⟨b, off, none⟩ ∧ W.cell? ⟨b, off + k, none⟩ = some (.int .i64 (xs[k] : Int)) := by
  rcases h with ⟨_, rfl⟩ | ⟨b, off, rfl, hb, hc⟩
  · simp at hk
  · refine ⟨b, off, rfl, ?_⟩
    have h1 := hc k xs[k] (List.getElem?_eq_getElem hk) 0 (.int .i64 (xs[k] : Int)) rfl
    simpa using h1
theorem Row.ownI {w : World} {base : Nat} {v : Value} {l : List Nat} (h : w.ownsRow base 3 1 v l.length (l.map intV)) : Row encI 1 w v l := by
  have e : l.flatMap encI = l.map intV := by
    clear h
    induction l with
    | nil => rfl
    | cons a l ih => rw [List.flatMap_cons, ih]; rfl
  exact owns_row' (enc := encI) (k := 1) (fun _ => rfl) (by rw [e]; exact h)

set_option maxHeartbeats 1000000 in
theorem ints_any (v u : Value) (xs ys : List Nat) (w : World) (hv : Row encI 1 w v xs) (hu : Row encI 1 w u ys) :
    Makes Try.prog 45 #[v, u] w (.bool (decide (xs = ys))) := by
  unfold Makes
  have hn := hv.len
  have hm := hu.len
  obtain ⟨p, cap, rfl, -, -, hp⟩ := hv
  obtain ⟨q, cap2, rfl, -, -, hq⟩ := hu
  by_cases hl : xs.length = ys.length
  · have hl1 : ((xs.length : Int) != (ys.length : Int)) = false := by simp [hl]
    have Hl := Lib.hid hl
    clear hl
    go_enter Try.func45, Try.ntmps45
    go_wp2
    go_loopw [5] (fun i wr => ∃ k : Nat, k ≤ xs.length ∧ i = .int .i64 k ∧ Below w.heap.size w wr ∧ Hid (xs.take k = ys.take k)) (fun i _ => xs.length - (intOf i).toNat)
    case atStart => exact ⟨0, by omega, rfl, Below.refl _ _, Lib.hid rfl⟩
    case round =>
      obtain ⟨k, hk, rfl, hb, he⟩ := hrel
      by_cases hlt : k < xs.length
      · have hlt2 : k < ys.length := by rw [← Hl.out]; exact hlt
        obtain ⟨b, off, rfl, a0⟩ := (hp.below hb).natI hlt
        obtain ⟨b2, off2, rfl, d0⟩ := (hq.below hb).natI hlt2
        have Hx := Lib.hid (List.take_succ_eq_append_getElem hlt)
        have Hy := Lib.hid (List.take_succ_eq_append_getElem hlt2)
        have Hne : Hid (xs[k] ≠ ys[k] → xs ≠ ys) := Lib.hid (fun h e => h (by subst e; rfl))
        generalize xs[k] = r at *
        generalize ys[k] = s at *
        by_cases hr : r = s
        · have hr1 : ((r : Int) != (s : Int)) = false := by simp [hr]
          have Hr := Lib.hid hr
          clear hr
          go_wp2
          go_quiet (fail)
          go_wp2
          go_roundw
          case rel => exact ⟨k + 1, by omega, by go_num, Below.drewN' hb _, Lib.hid (by rw [Hx.out, Hy.out, he.out, Hr.out])⟩
          case measure => simp [intOf]; omega
        · have hr1 : ((r : Int) != (s : Int)) = true := by simp; omega
          have Hr := Lib.hid hr
          clear hr
          go_wp2
          go_quiet (fail)
          go_wp2
          go_ret
          exact ⟨ret_bool (decide_eq_false (Hne.out Hr.out)).symm, Below.drewN' hb _⟩
      · go_wp2
        go_ret
        refine ⟨ret_bool (decide_eq_true ?_).symm, hb⟩
        have h1 := he.out
        rwa [List.take_of_length_le (by omega), List.take_of_length_le (by rw [← Hl.out]; omega)] at h1
  · have hl1 : ((xs.length : Int) != (ys.length : Int)) = true := by simp; omega
    have Hl := Lib.hid hl
    clear hl
    go_enter Try.func45, Try.ntmps45
    go_wp2
    go_ret
    exact ⟨ret_bool (decide_eq_false (fun e => Hl.out (by rw [e]))).symm, Below.refl _ _⟩

theorem litR {w : World} {l : List Rc} {c : Array Value} {t : TypeId} {n : Nat} (hc : c.toList = flatR l) (hn : n = l.length) (hm : l.length ≤ maxLen) : Row encR 4 (w.alloc (.cells c t)) (.slice (some ⟨w.heap.size, 0, none⟩) n n) l := by
  subst hn
  refine ⟨_, _, rfl, Nat.le_refl _, hm, .inr ⟨_, _, rfl, by simp, fun i x hi j u hj => ?_⟩⟩
  have hj4 : j < 4 := by
    have := (List.getElem?_eq_some_iff.1 hj).1
    simpa [encR] using this
  have h1 := flat_at' (enc := encR) (k := 4) (fun _ => rfl) l i j hj4
  rw [hi] at h1
  refine cell_at rfl ?_
  rw [Nat.zero_add, ← Array.getElem?_toList, hc]
  exact h1.trans hj
theorem litI {w : World} {l : List Nat} {c : Array Value} {t : TypeId} {n : Nat} (hc : c.toList = l.map intV) (hn : n = l.length) (hm : l.length ≤ maxLen) : Row encI 1 (w.alloc (.cells c t)) (.slice (some ⟨w.heap.size, 0, none⟩) n n) l := by
  subst hn
  refine ⟨_, _, rfl, Nat.le_refl _, hm, .inr ⟨_, _, rfl, by simp, fun i x hi j u hj => ?_⟩⟩
  have hj0 : j = 0 := by
    have := (List.getElem?_eq_some_iff.1 hj).1
    simp [encI] at this
    omega
  subst hj0
  refine cell_at rfl ?_
  rw [← Array.getElem?_toList, hc, List.getElem?_map]
  simp [encI] at hj
  simp [hi, hj]

set_option maxRecDepth 20000 in
set_option maxHeartbeats 1000000 in
theorem tlWakes_any (W : World) : Makes Try.prog 25 #[] W (.bool true) := by
  unfold Makes
  have hf : ∀ r ∈ ([⟨15, 0, 2, 1⟩] : List Rc), Fit r := fun r hr => by
    rcases List.mem_cons.1 hr with rfl | hr
    · exact full_fit (by decide)
    · cases hr
  have e20 : szW 20 16 = 20 ∧ szH 20 16 = 16 := by decide
  go_enter Try.func25, Try.ntmps25
  go_upto_region 2 with (fail)
  have hl : Row encR 4 (W.alloc (.cells #[.int .i64 15, .int .i64 0, .int .i64 2, .int .i64 1] 38)) (.slice (some ⟨W.heap.size, 0, none⟩) 1 1) [⟨15, 0, 2, 1⟩] := litR rfl rfl (by decide)
  have hb1 := Below.al1 W (.cells #[.int .i64 15, .int .i64 0, .int .i64 2, .int .i64 1] 38)
  generalize W.alloc (.cells #[.int .i64 15, .int .i64 0, .int .i64 2, .int .i64 1] 38) = w1 at *
  have Hl := Lib.hid hl
  have Hb1 := Lib.hid hb1
  clear hl hb1
  go_wp2_with fail
  refine Calls.mono (grid_any 20 16 w1) ?_
  rw [e20.1, e20.2]
  rintro _ w2 ⟨v2, rfl, ho2, hb2⟩
  have Ho2 := Lib.hid ho2
  have Hb2 := Lib.hid hb2
  clear ho2 hb2
  go_wp2_with fail
  have hx2 := (Turns.of_below' (T := fun _ => False) (Below.al1 w2 (.cells #[.int .i64 0, .int .i64 0, .int .i64 16, .int .i64 16, .int .i64 16, .int .i64 0, .int .i64 4, .int .i64 16] 38))).owns Ho2.out (fun _ _ h => h)
  have hy2 : Row encR 4 (w2.alloc (.cells #[.int .i64 0, .int .i64 0, .int .i64 16, .int .i64 16, .int .i64 16, .int .i64 0, .int .i64 4, .int .i64 16] 38)) (.slice (some ⟨w2.heap.size, 0, none⟩) 2 2) [⟨0, 0, 16, 16⟩, ⟨16, 0, 4, 16⟩] := litR rfl rfl (by decide)
  have Hb3 := Lib.hid (Below.thn Hb2.out (Below.al1 w2 (.cells #[.int .i64 0, .int .i64 0, .int .i64 16, .int .i64 16, .int .i64 16, .int .i64 0, .int .i64 4, .int .i64 16] 38)))
  generalize w2.alloc (.cells #[.int .i64 0, .int .i64 0, .int .i64 16, .int .i64 16, .int .i64 16, .int .i64 0, .int .i64 4, .int .i64 16] 38) = w3 at *
  refine Calls.mono (refRects_any v2 _ _ _ w3 (owns_row' (enc := encR) (k := 4) (fun _ => rfl) hx2) hy2) ?_
  rw [tq1]
  rintro _ w4 ⟨rfl, hb4⟩
  have Hb4 := Lib.hid (Below.thn Hb3.out hb4)
  clear hb4 hx2 hy2 Hb3 Ho2 Hb2
  go_wp2_with fail
  refine Calls.mono (touched_any _ _ 20 16 w4 (Hl.out.below Hb4.out) hf (by decide)) ?_
  rw [e20.1, e20.2, tq2]
  rintro _ w5 ⟨v5, rfl, ho5, hb5⟩
  have Ho5 := Lib.hid ho5
  have Hb5 := Lib.hid (Below.thn Hb4.out hb5)
  clear ho5 hb5 Hb4
  go_wp2_with fail
  have hx5 := (Turns.of_below' (T := fun _ => False) (Below.al1 w5 (.cells #[.int .i64 0, .int .i64 1] 3))).owns Ho5.out (fun _ _ h => h)
  have hy5 : Row encI 1 (w5.alloc (.cells #[.int .i64 0, .int .i64 1] 3)) (.slice (some ⟨w5.heap.size, 0, none⟩) 2 2) [0, 1] := litI rfl rfl (by decide)
  have Hb6 := Lib.hid (Below.thn Hb5.out (Below.al1 w5 (.cells #[.int .i64 0, .int .i64 1] 3)))
  generalize w5.alloc (.cells #[.int .i64 0, .int .i64 1] 3) = w6 at *
  refine Calls.mono (ints_any v5 _ _ _ w6 (Row.ownI hx5) hy5) ?_
  rw [show decide ([0, 1] = ([0, 1] : List Nat)) = true from rfl]
  rintro _ w7 ⟨rfl, hb7⟩
  have Hb7 := Lib.hid (Below.thn Hb6.out hb7)
  clear hb7 hx5 hy5 Hb6 Ho5 Hb5
  go_wp2_with fail
  refine Calls.mono (split_any _ _ 20 16 w7 (Hl.out.below Hb7.out) hf (by decide)) ?_
  rw [e20.1, e20.2]
  rintro _ w8 ⟨v8, rfl, ho8, hb8⟩
  have Ho8 := Lib.hid ho8
  have Hb8 := Lib.hid (Below.thn Hb7.out hb8)
  clear ho8 hb8 Hb7
  go_wp2_with fail
  have hx8 := (Turns.of_below' (T := fun _ => False) (Below.al1 w8 (.cells #[.int .i64 15, .int .i64 0, .int .i64 1, .int .i64 1, .int .i64 16, .int .i64 0, .int .i64 1, .int .i64 1] 38))).owns Ho8.out (fun _ _ h => h)
  have hy8 : Row encR 4 (w8.alloc (.cells #[.int .i64 15, .int .i64 0, .int .i64 1, .int .i64 1, .int .i64 16, .int .i64 0, .int .i64 1, .int .i64 1] 38)) (.slice (some ⟨w8.heap.size, 0, none⟩) 2 2) [⟨15, 0, 1, 1⟩, ⟨16, 0, 1, 1⟩] := litR rfl rfl (by decide)
  have Hb9 := Lib.hid (Below.thn Hb8.out (Below.al1 w8 (.cells #[.int .i64 15, .int .i64 0, .int .i64 1, .int .i64 1, .int .i64 16, .int .i64 0, .int .i64 1, .int .i64 1] 38)))
  generalize w8.alloc (.cells #[.int .i64 15, .int .i64 0, .int .i64 1, .int .i64 1, .int .i64 16, .int .i64 0, .int .i64 1, .int .i64 1] 38) = w9 at *
  refine Calls.mono (refRects_any v8 _ _ _ w9 (owns_row' (enc := encR) (k := 4) (fun _ => rfl) hx8) hy8) ?_
  rw [tq3]
  rintro _ w10 ⟨rfl, hb10⟩
  have Hb10 := Lib.hid (Below.thn Hb9.out hb10)
  clear hb10 hx8 hy8 Hb9 Ho8 Hb8
  go_wp2_with fail
  have hi10 := World.alloc_heap_new w10 (.cells #[.int .u32 0] 35)
  have hb11 := Below.al1 w10 (.cells #[.int .u32 0] 35)
  have Hb11 := Lib.hid (Below.thn Hb10.out hb11)
  generalize w10.alloc (.cells #[.int .u32 0] 35) = w11 at *
  have hrow : RowAt encW 1 w11 (some ⟨w10.heap.size, 0, none⟩) [0] := .inr ⟨_, _, rfl, lt_heapT hi10, fun i x hi j u hj => by
    obtain rfl : i = 0 := by have := (List.getElem?_eq_some_iff.1 hi).1; simp at this; omega
    simp at hi
    subst hi
    obtain rfl : j = 0 := by have := (List.getElem?_eq_some_iff.1 hj).1; simp [encW] at this; omega
    simp [encW] at hj
    subst hj
    exact cell_heapT hi10 rfl⟩
  refine Calls.mono (sums_any 1 1 _ 1 1 [0] w11 hrow rfl (by decide) (by decide)) ?_
  rintro _ w12 ⟨v12, rfl, ho12, hb12⟩
  have hs1 : (smL 1 1 [0]).length = 1 := by
    unfold smL
    rw [if_pos (by decide), List.length_map, List.length_range]
    decide
  rw [hs1] at ho12
  obtain ⟨p12, c12, rfl⟩ := owns_slice ho12
  have Hb12 := Lib.hid (Below.thn Hb1.out (Below.thn Hb11.out hb12))
  clear ho12 hb12 hs1 hrow hi10 hb11
  go_wp2
  go_ret
  exact ⟨rfl, Hb12.out⟩

end Go.Proofs.Ytajoipmchgabfaa

/- tiles, plainly: one tile for each pixel; what is touched. Nothing here speaks of a program. -/
namespace Go.Proofs.Ytajoipmchgabfaa

theorem tl_has {w h i : Nat} (hw : w ≤ 256) (hh : h ≤ 256) (hi : i < tlN w h) (x y : Int) : hasR (tlR w h i) x y = true ↔ (16 * ((i % clN w : Nat) : Int) ≤ x ∧ x < 16 * ((i % clN w : Nat) : Int) + 16 ∧ x < w) ∧ (16 * ((i / clN w : Nat) : Int) ≤ y ∧ y < 16 * ((i / clN w : Nat) : Int) + 16 ∧ y < h) := by
  obtain ⟨a1, a2, a3, a4⟩ := tl_parts hw hh hi
  have hr16 : 16 * (i / clN w) < h := by
    have h1 : 16 * (i / clN w) < 16 * clN h := by omega
    have h2 : clN h = (h + 15) / 16 := rfl
    omega
  exact til_has hw hh (by unfold clN at a1 ⊢; omega) hr16 x y

theorem tile_one {w h : Nat} (hw : w ≤ 256) (hh : h ≤ 256) (x y : Int) : ∃ i0, (∀ i, i < tlN w h → hasR (tlR w h i) x y = decide (i = i0)) ∧
    ((0 ≤ x ∧ x < w ∧ 0 ≤ y ∧ y < h ∧ i0 < tlN w h ∧ (i0 : Int) = y / 16 * (clN w : Int) + x / 16) ∨ (¬ (0 ≤ x ∧ x < w ∧ 0 ≤ y ∧ y < h) ∧ i0 = tlN w h)) := by
  by_cases hin : 0 ≤ x ∧ x < w ∧ 0 ≤ y ∧ y < h
  · obtain ⟨X, rfl⟩ := Int.eq_ofNat_of_zero_le hin.1
    obtain ⟨Y, rfl⟩ := Int.eq_ofNat_of_zero_le hin.2.2.1
    have hX : X / 16 < clN w := by unfold clN; omega
    have hY : Y / 16 < clN h := by unfold clN; omega
    refine ⟨Y / 16 * clN w + X / 16, fun i hi => ?_, .inl ⟨hin.1, hin.2.1, hin.2.2.1, hin.2.2.2, ?_, by simp⟩⟩
    · rw [Bool.eq_iff_iff, tl_has hw hh hi, decide_eq_true_iff]
      obtain ⟨a1, a2, -, -⟩ := tl_parts hw hh hi
      constructor
      · intro hc
        have e1 : i % clN w = X / 16 := by omega
        have e2 : i / clN w = Y / 16 := by omega
        rw [← e1, ← e2, Nat.mul_comm, Nat.div_add_mod]
      · rintro rfl
        obtain ⟨e1, e2⟩ := num_parts (r := Y / 16) hX
        rw [e1, e2]
        omega
    · have : (Y / 16 + 1) * clN w ≤ clN h * clN w := Nat.mul_le_mul_right _ hY
      rw [Nat.add_mul] at this
      unfold tlN; omega
  · refine ⟨tlN w h, fun i hi => ?_, .inr ⟨hin, rfl⟩⟩
    have : ¬ hasR (tlR w h i) x y = true := fun hc => hin (by
      rw [tl_has hw hh hi] at hc
      have n1 := Int.natCast_nonneg (i % clN w)
      have n2 := Int.natCast_nonneg (i / clN w)
      omega)
    rw [show decide (i = tlN w h) = false by simp; omega]
    simpa using this

/-- A tile is touched where a list and it have a pixel. -/
theorem touch_iff {w h : Nat} (hw : w ≤ 256) (hh : h ≤ 256) (l : List Rc) {i : Nat} (hi : i < tlN w h) : ofN (pcsL w h (ptL w h l)) i ≠ [] ↔ ∃ x y, pix l x y = true ∧ hasR (tlR w h i) x y = true := by
  have hpx := pcs_pix hw hh (ptL_in w h l) hi
  constructor
  · intro hne
    obtain ⟨r, hr⟩ := List.exists_mem_of_ne_nil _ hne
    obtain ⟨-, he, -⟩ := pcs_mem hw hh (ptL_in w h l) hr
    obtain ⟨c1, -, -, -⟩ := corner_has he
    have h1 := pix_iff.2 ⟨r, hr, c1⟩
    rw [hpx, ptL_pix, Bool.and_eq_true, Bool.and_eq_true] at h1
    exact ⟨_, _, h1.1.1, h1.2⟩
  · rintro ⟨x, y, h1, h2⟩ e
    have h3 := hpx x y
    have h4 : hasR (pcR w h) x y = true := by
      unfold tlR til at h2
      rw [has_and, Bool.and_eq_true] at h2
      exact h2.2
    rw [e, ptL_pix, h1, h2, h4, pix_nil] at h3
    cases h3

theorem filter_one (i0 : Nat) : ∀ N, (List.range N).filter (fun i => decide (i = i0)) = if i0 < N then [i0] else []
  | 0 => rfl
  | N + 1 => by
    rw [List.range_succ, List.filter_append, filter_one i0 N]
    by_cases h : N = i0
    · subst h
      simp
    · by_cases h2 : i0 < N
      · simp [h, h2, show i0 < N + 1 by omega]
      · simp [h, h2, show ¬ i0 < N + 1 by omega]
theorem touch_one {w h : Nat} (hw : w ≤ 256) (hh : h ≤ 256) (x y : Int) {i0 : Nat} (h0 : ∀ i, i < tlN w h → hasR (tlR w h i) x y = decide (i = i0)) :
    ((List.range (tlN w h)).filter fun i => !(ofN (pcsL w h (ptL w h [⟨x, y, 1, 1⟩])) i).isEmpty) = if i0 < tlN w h then [i0] else [] := by
  rw [← filter_one]
  refine List.filter_congr fun i hi => ?_
  have hi' := List.mem_range.1 hi
  rw [← h0 i hi', Bool.eq_iff_iff]
  have h1 := touch_iff hw hh [⟨x, y, 1, 1⟩] hi'
  have h2 : (!(ofN (pcsL w h (ptL w h [⟨x, y, 1, 1⟩])) i).isEmpty) = true ↔ ofN (pcsL w h (ptL w h [⟨x, y, 1, 1⟩])) i ≠ [] := by
    cases ofN (pcsL w h (ptL w h [⟨x, y, 1, 1⟩])) i <;> simp
  rw [h2, h1]
  constructor
  · rintro ⟨p, q, e1, e2⟩
    obtain ⟨r, hr, hx⟩ := pix_iff.1 e1
    rcases List.mem_cons.1 hr with rfl | hr
    · obtain ⟨-, b1, b2⟩ := has_iff.1 hx
      simp only at b1 b2
      rwa [show p = x by omega, show q = y by omega] at e2
    · cases hr
  · intro hx
    refine ⟨x, y, pix_iff.2 ⟨_, List.mem_cons_self, has_iff.2 ⟨?_, by simp only; omega, by simp only; omega⟩⟩, hx⟩
    have h3 := (tl_has hw hh hi' x y).1 hx
    have n1 := Int.natCast_nonneg (i % clN w)
    have n2 := Int.natCast_nonneg (i / clN w)
    rw [emptyR_false]
    simp only
    omega

end Go.Proofs.Ytajoipmchgabfaa

/- tiles, plainly: a tile's sum hangs on the pixels' lower 24 bits alone, and on its own pixels alone. -/
namespace Go.Proofs.Ytajoipmchgabfaa
open Go.RowKit

theorem px3_low (s c : Int) : px3 s (c % 16777216) = px3 s c := by
  unfold px3
  rw [show c % 16777216 / 65536 % 256 = c / 65536 % 256 by omega, show c % 16777216 / 256 % 256 = c / 256 % 256 by omega, show c % 16777216 % 256 = c % 256 by omega]
def lowL (L : List Int) : List Int := L.map (· % 16777216)
theorem fold_low : ∀ (L : List Int) (s : Int), (lowL L).foldl px3 s = L.foldl px3 s
  | [], _ => rfl
  | c :: L, s => by
    unfold lowL
    rw [List.map_cons, List.foldl_cons, List.foldl_cons, px3_low]
    exact fold_low L _
theorem rwP_low (wd x a q : Nat) (L : List Int) : rwP wd x a q (lowL L) = lowL (rwP wd x a q L) := by
  unfold rwP lowL
  rw [List.map_take, List.map_drop]
theorem smF_low (wd x y a : Nat) (L : List Int) : ∀ j, smF wd x y a (lowL L) j = smF wd x y a L j
  | 0 => rfl
  | j + 1 => by
    unfold smF
    rw [rwP_low, fold_low, smF_low wd x y a L j]
theorem tlS_low (pw ph : Nat) (L : List Int) (i : Nat) : tlS pw ph (lowL L) i = tlS pw ph L i := by
  unfold tlS; rw [smF_low]
theorem rwP_set {wd x a q p : Nat} {v : Int} {L : List Int} (h : p < q * wd + x ∨ q * wd + x + a ≤ p) : rwP wd x a q (L.set p v) = rwP wd x a q L := by
  unfold rwP
  apply List.ext_getElem?
  intro k
  by_cases hk : k < a
  · rw [List.getElem?_take_of_lt hk, List.getElem?_take_of_lt hk, List.getElem?_drop, List.getElem?_drop, List.getElem?_set_ne (by omega)]
  · rw [List.getElem?_eq_none (by rw [List.length_take]; omega), List.getElem?_eq_none (by rw [List.length_take]; omega)]
theorem smF_set {wd x y a p : Nat} {v : Int} {L : List Int} : ∀ {j : Nat}, (∀ k, k < j → p < (y + k) * wd + x ∨ (y + k) * wd + x + a ≤ p) → smF wd x y a (L.set p v) j = smF wd x y a L j
  | 0, _ => rfl
  | j + 1, h => by
    unfold smF
    rw [rwP_set (h j (by omega)), smF_set (fun k hk => h k (by omega))]
/-- A pixel that a tile has not plays no part in its sum. -/
theorem tlS_set {pw ph i p : Nat} {v : Int} {L : List Int} (hw : pw ≤ 256) (hh : ph ≤ 256) (hi : i < tlN pw ph) (hp : hasR (tlR pw ph i) ((p % pw : Nat) : Int) ((p / pw : Nat) : Int) = false) : tlS pw ph (L.set p v) i = tlS pw ph L i := by
  obtain ⟨⟨h1, h2, h3, h4, h5, h6⟩, he⟩ := tl_in hw hh hi
  unfold tlS
  refine smF_set fun k hk => ?_
  generalize tlR pw ph i = r at *
  obtain ⟨X, hX⟩ : ∃ X, r.x.toNat = X := ⟨_, rfl⟩
  obtain ⟨Y, hY⟩ : ∃ X, r.y.toNat = X := ⟨_, rfl⟩
  obtain ⟨A, hA⟩ : ∃ X, r.a.toNat = X := ⟨_, rfl⟩
  rw [hX, hY, hA]
  by_cases hc : p < (Y + k) * pw + X ∨ (Y + k) * pw + X + A ≤ p
  · exact hc
  · exfalso
    have hXA : X + A ≤ pw := by omega
    obtain ⟨m, hm⟩ : ∃ m, p = (Y + k) * pw + m := ⟨p - (Y + k) * pw, by omega⟩
    have hmw : m < pw := by omega
    have e1 : p % pw = m := by rw [hm, Nat.mul_comm, Nat.mul_add_mod, Nat.mod_eq_of_lt hmw]
    have e2 : p / pw = Y + k := by rw [hm, Nat.mul_comm, Nat.mul_add_div (by omega), Nat.div_eq_of_lt hmw, Nat.add_zero]
    rw [e1, e2] at hp
    have : hasR r (m : Int) ((Y + k : Nat) : Int) = true := has_iff.2 ⟨he, by omega, by omega⟩
    rw [this] at hp
    cases hp

theorem xor32_nat (a b : Nat) (ha : a < 4294967296) (hb : b < 4294967296) : bits .xor .u32 (a : Int) (b : Int) = ((a ^^^ b : Nat) : Int) := by
  have hx : a ^^^ b < 2 ^ 32 := Nat.xor_lt_two_pow (by omega) (by omega)
  have h1 : (BitVec.ofInt 32 (a : Int)).toNat = a := by
    rw [BitVec.ofInt_natCast, BitVec.toNat_ofNat]; exact Nat.mod_eq_of_lt (by omega)
  have h2 : (BitVec.ofInt 32 (b : Int)).toNat = b := by
    rw [BitVec.ofInt_natCast, BitVec.toNat_ofNat]; exact Nat.mod_eq_of_lt (by omega)
  show IntKind.u32.wrap ((BitVec.ofInt 32 (a : Int) ^^^ BitVec.ofInt 32 (b : Int)).toNat : Int) = _
  rw [BitVec.toNat_xor, h1, h2, IntKind.wrap_u32]
  omega
theorem xor_low (z : Int) (h0 : 0 ≤ z) (h1 : z < 4294967296) : (bits .xor .u32 z 16777216) % 16777216 = z % 16777216 := by
  obtain ⟨n, rfl⟩ := Int.eq_ofNat_of_zero_le h0
  have h := xor32_nat n 16777216 (by omega) (by decide)
  rw [show ((16777216 : Nat) : Int) = 16777216 from rfl] at h
  rw [h]
  have h2 : (n ^^^ 16777216) % 2 ^ 24 = n % 2 ^ 24 := by
    rw [Nat.xor_mod_two_pow]; simp
  have h3 : ((n ^^^ 16777216 : Nat) : Int) % 16777216 = (((n ^^^ 16777216) % 2 ^ 24 : Nat) : Int) := by simp
  rw [h3, h2]
  simp

end Go.Proofs.Ytajoipmchgabfaa
