/- Several texts in one, each with its own head. -/
import Derived.Test.YtoladolgmeanhaaGreatRE3
import Derived.Deep.Slices
namespace Go.Proofs.YtoladolgmeanhaaGreat
open Go.RowKit
attribute [local go_sem] Oper.semAt_some
theorem srcP {w : World} {p : Option Addr} {n c : Nat} {l : List Nat} (h : RwP w (.slice p n c) l) : (p = none ∧ n = 0 ∧ c = 0) ∨ ∃ ad, p = some ad ∧ ∀ j u, (l.map pxv)[j]? = some u → w.cell? (ad.add j) = some u := by
  obtain ⟨p', c', e, -, -, hs⟩ := h.src encP_len (by decide)
  cases e
  rwa [flatP] at hs
theorem ImB.put2 {w : World} {B : Nat} {wd ht : Int} {x v : Value} (h : ImB w B wd ht x) : ImB (w.setCell ⟨B, 2, none⟩ v) B wd ht v := by
  refine ⟨?_⟩
  obtain ⟨hlt, hk⟩ := Array.getElem?_eq_some_iff.1 h.at'
  show (w.heap.modify B _)[B]? = _
  rw [Array.getElem?_eq_getElem (by rw [Array.size_modify]; exact hlt), Array.getElem_modify_self, hk]
  rfl
theorem ImB.other {w : World} {B g i : Nat} {wd ht : Int} {x v : Value} (h : ImB w B wd ht x) (hn : g ≠ B) : ImB (w.setCell ⟨g, i, none⟩ v) B wd ht x := ⟨(Below.heap_setCell _ _ _ B (fun e => hn e.symm)).trans h.at'⟩
def EncE (wd ht : Int) (n : Nat) (l : List Nat) (k : Nat) (b : List Nat) (er : Int) : Prop := (¬ cdM wd ht n ∧ k = 0 ∧ b = [] ∧ er = 1) ∨ (cdM wd ht n ∧ er = 0 ∧ ∃ S, DefS (cdP l) S ∧ cdE l S = (k, b))
set_option maxRecDepth 20000 in
set_option maxHeartbeats 8000000 in
theorem cencodes_law (wd ht : Int) (p : Option Addr) (n c : Nat) (l : List Nat) (w : World) (hv0 : RwP w (.slice p n c) l) (h32 : ∀ x ∈ l, x < 4294967296) :
    Makes Tryz.prog 3 #[.agg #[.int .i64 wd, .int .i64 ht, .slice p n c]] w (.bool true) := by
  unfold Makes
  have hlen := hv0.row.lenR
  have Hv := Lib.hid hv0.row
  have Hv0 := Lib.hid hv0
  have Hlen := Lib.hid hlen
  have H32 := Lib.hid h32
  obtain ⟨i0, hi0, hz0, hz1, hz2⟩ := info_parts pxv_info
  clear hv0 hlen h32
  go_enter Tryz.func3, Tryz.ntmps3
  go_upto_region 1 with (fail)
  have hI := ImB.new w wd ht (.slice p n c)
  have hb0 := Below.al1 w (.cells #[.int .i64 wd, .int .i64 ht, .slice p n c] 24)
  generalize w.alloc (.cells #[.int .i64 wd, .int .i64 ht, .slice p n c] 24) = W0 at *
  obtain ⟨B, hB⟩ : ∃ B, w.heap.size = B := ⟨_, rfl⟩
  rw [hB] at hI ⊢
  have Hb0 := Lib.hid hb0
  have HB := Lib.hid hB
  clear hb0 hB
  obtain ⟨c0, c1, c2⟩ := hI.c
  have HI := Lib.hid hI
  by_cases h4 : 900 < n
  · have d0 : decide ((n : Int) > 900) = true := by simp; omega
    go_wp2
    go_ret
    rw [← HB.out]
    exact ⟨rfl, Hb0.out⟩
  have d0 : decide ((n : Int) > 900) = false := by simp; omega
  clear hI
  go_upto_region 4 with (fail)
  have hbi := Below.al1 W0 (.cells #[.int .i64 wd, .int .i64 ht, .slice p n c] 24)
  have hIi := ImB.new W0 wd ht (.slice p n c)
  generalize W0.alloc (.cells #[.int .i64 wd, .int .i64 ht, .slice p n c] 24) = w1 at *
  obtain ⟨Bi, hBi⟩ : ∃ B, W0.heap.size = B := ⟨_, rfl⟩
  rw [hBi] at hIi ⊢
  have Hb1 := Lib.hid (Below.thn Hb0.out hbi)
  have HI1 := Lib.hid (HI.out.later hbi)
  have HIi := Lib.hid hIi
  obtain ⟨x0, x1, x2⟩ := HI1.out.c
  have HBi := Lib.hid hBi
  have Hlt : Hid (w.heap.size < W0.heap.size) := Lib.hid (by rw [HB.out]; exact lt_heap HI.out.at')
  have HB1s : Hid (W0.heap.size < w1.heap.size) := Lib.hid (by have := lt_heap hIi.at'; omega)
  clear c0 c1 c2 hbi hBi
  have hbe := Below.al1 w1 (.cells #[] 41)
  have e2 := cell_later hbe x2
  have Hown := Lib.hid (show (w1.alloc (.cells #[] 41)).ownsRow w1.heap.size 41 1 (.slice (some ⟨w1.heap.size, 0, none⟩) 0 0) 0 [] from by
    simpa using World.ownsRow_lit (base := w1.heap.size) (size := 1) (e := 41) w1 #[] 0 (Nat.le_refl _) (Nat.zero_le _) rfl)
  have Hsrc := Lib.hid (srcP (Hv0.out.below (Below.thn Hb1.out hbe)))
  have Hbe := Lib.hid hbe
  clear hbe x0 x1 x2
  go_wp2_with (at_builtin; refine wpList_append_mine _ rfl (.tmp 17) (.tmp 19) 22 rfl w1.heap.size 41 i0 _ 1 4 Tryz.underlying22 hi0 hz0 hz1 hz2 rfl (by decide) (.slice (some ⟨w1.heap.size, 0, none⟩) 0 0) 0 [] rfl Hown.out p n c (l.map pxv) rfl (by simp [Hlen.out]) Hsrc.out (oneP _) ?n3 ?n4 ?n5 ?_)
  case n3 => simp only [maxLen]; omega
  case n4 => omega
  case n5 => simp
  intro v3 w3 ho3 hg3 _
  have ht3 := Turns.of_grown (T := fun q => q = w1.heap.size) hg3 (fun i h => by cases h; rfl)
  have hb3 : Below w1.heap.size w1 w3 := Hbe.out.trans (ht3.below Hbe.out.size (fun i h => by omega))
  replace ho3 : w3.ownsRow w1.heap.size 41 1 v3 n (l.map pxv) := by simpa using ho3
  obtain ⟨p3, c3, rfl⟩ := owns_slice ho3
  have Ho3 := Lib.hid ho3
  have Hb3 := Lib.hid hb3
  have hi3 := HIi.out.later hb3
  obtain ⟨j0, j1, j2⟩ := hi3.c
  have jf : w3.frozen? ⟨Bi, 2, none⟩ = false := by simp [World.frozen?, hi3.at']
  have HI3 := Lib.hid (HI1.out.later hb3)
  have Hi3 := Lib.hid hi3
  clear ho3 hg3 ht3 hb3 hi3 Hsrc Hown Hbe e2
  go_upto_region 5 with (fail)
  have hset : Turns (fun b => b = Bi) w3 (w3.setCell ⟨Bi, 2, none⟩ (.slice p3 n c3)) := (Turns.refl (fun b => b = Bi) w3).set (p := ⟨Bi, 2, none⟩) rfl _
  have hBi : B < Bi := by have h1 := HB.out; have h2 := HBi.out; have := Hlt.out; omega
  have hi4 : ImB (w3.setCell ⟨Bi, 2, none⟩ (.slice p3 n c3)) Bi wd ht (.slice p3 n c3) := Hi3.out.put2
  have hI4 : ImB (w3.setCell ⟨Bi, 2, none⟩ (.slice p3 n c3)) B wd ht (.slice p n c) := HI3.out.other (by omega)
  have hb4 : Below w.heap.size w (w3.setCell ⟨Bi, 2, none⟩ (.slice p3 n c3)) := (Below.thn Hb1.out Hb3.out).trans (hset.below (Below.thn Hb1.out Hb3.out).size fun i (hi : i = Bi) => by have := HB.out; omega)
  have hr4 : Row encP 1 (w3.setCell ⟨Bi, 2, none⟩ (.slice p3 n c3)) (.slice p3 n c3) l := own_rowP (hset.owns Ho3.out fun i hi (h : i = Bi) => by have h1 := (Ho3.out.lt i hi).1; have h2 := HBi.out; have := Hlt.out; have := HB1s.out; omega)
  generalize w3.setCell ⟨Bi, 2, none⟩ (.slice p3 n c3) = w4 at *
  have Hb4 := Lib.hid hb4
  have HI4 := Lib.hid hI4
  have Hi4 := Lib.hid hi4
  have Hr4 := Lib.hid hr4
  obtain ⟨k0, k1, k2⟩ := hi4.c
  clear hset hBi hi4 hI4 hb4 hr4 j0 j1 j2 jf
  go_wp2_with fail
  refine Calls.mono (cenc_row wd ht Hr4.out H32.out) ?_
  intro e w5 hE
  obtain ⟨k, b, pb, cb, er, rfl, hrb, hEE, hb5⟩ : ∃ (k : Nat) (b : List Nat) (pb : Option Addr) (cb : Nat) (er : Int), e = .returned (.tuple #[.int .u8 (k : Int), .slice pb b.length cb, .int .i64 er]) ∧ Row enc8 1 w5 (.slice pb b.length cb) b ∧ EncE wd ht n l k b er ∧ Below w4.heap.size w4 w5 := by
    obtain ⟨hb, ⟨h, rfl⟩ | ⟨h, S, p', c', hS, rfl, ho⟩⟩ := hE
    · exact ⟨0, [], none, 0, 1, rfl, ⟨none, 0, rfl, Nat.le_refl _, by decide, .inl ⟨rfl, rfl⟩⟩, .inl ⟨h, rfl, rfl, rfl⟩, hb⟩
    · exact ⟨(cdE l S).1, (cdE l S).2, p', c', 0, rfl, own_rowB ho, .inr ⟨h, rfl, S, hS, rfl⟩, hb⟩
  have Hrb := Lib.hid hrb
  have HEE := Lib.hid hEE
  have Hb5 := Lib.hid (Below.thn Hb4.out hb5)
  have HI5 := Lib.hid (HI4.out.later hb5)
  have Hi5 := Lib.hid (Hi4.out.later hb5)
  have Hr5 := Lib.hid (Hr4.out.below hb5)
  obtain ⟨y0, y1, y2⟩ := HI5.out.c
  clear hE hrb hEE hb5 k0 k1 k2
  go_wp2_with fail
  refine Calls.mono (plain_w (Hv.out.below Hb5.out) (by omega)) ?_
  rintro _ w6 ⟨p6, c6, rfl, hb6, hr6⟩
  have Hb6 := Lib.hid (Below.thn Hb5.out hb6)
  have HI6 := Lib.hid (HI5.out.later hb6)
  have Hi6 := Lib.hid (Hi5.out.later hb6)
  have Hr6 := Lib.hid (Hr5.out.below hb6)
  have Hrb6 := Lib.hid (Hrb.out.below hb6)
  have hdf := deflate_any _ (cdP l) w6 (hr6 _ (Below.refl _ _)) (cdP_256 l) (by rw [cdP_len, Hlen.out]; omega)
  clear hb6 hr6 y0 y1 y2
  go_wp2_with fail
  refine Calls.mono hdf ?_
  rintro _ w7 ⟨v7, S, rfl, hS, hSl, ho7, hb7⟩
  have HS := Lib.hid hS
  have Hst := Lib.hid (own_rowB ho7)
  obtain ⟨p7, c7, rfl⟩ := owns_slice ho7
  have Hb7 := Lib.hid (Below.thn Hb6.out hb7)
  have HI7 := Lib.hid (HI6.out.later hb7)
  have Hi7 := Lib.hid (Hi6.out.later hb7)
  have Hr7 := Lib.hid (Hr6.out.below hb7)
  have Hrb7 := Lib.hid (Hrb6.out.below hb7)
  obtain ⟨y0, y1, y2⟩ := HI7.out.c
  obtain ⟨m, hm⟩ : ∃ m, S.length = m := ⟨_, rfl⟩
  rw [hm] at Hst ⊢
  clear hb7 hS ho7 hdf hm hSl
  go_wp2_with fail
  refine Calls.mono (crefEncode_any wd ht p p7 n c m c7 l S w7 (Hv.out.below Hb7.out) Hst.out) ?_
  intro e w8 hE
  obtain ⟨v8, rfl, hr8, hb8⟩ : ∃ v, e = .returned (.tuple #[.int .u8 (k : Int), v, .int .i64 er]) ∧ Row enc8 1 w8 v b ∧ Below w7.heap.size w7 w8 := by
    obtain ⟨hb, ⟨h, rfl⟩ | ⟨h, v, rfl, hr⟩⟩ := hE
    · rcases HEE.out with ⟨-, rfl, rfl, rfl⟩ | ⟨h', -⟩
      · exact ⟨_, rfl, ⟨none, 0, rfl, Nat.le_refl _, by decide, .inl ⟨rfl, rfl⟩⟩, hb⟩
      · exact absurd h' h
    · rcases HEE.out with ⟨h', -⟩ | ⟨-, rfl, S', hS', e'⟩
      · exact absurd h h'
      · obtain rfl := HS.out.det hS'
        rw [e'] at hr ⊢
        exact ⟨v, rfl, hr, hb⟩
  have Hb8 := Lib.hid (Below.thn Hb7.out hb8)
  have hI8 := HI7.out.later hb8
  have hi8 := Hi7.out.later hb8
  have Hr8 := Lib.hid (Hr7.out.below hb8)
  have hs1 := strR_row (Hrb7.out.below hb8)
  have hs2 := strR_row hr8
  obtain ⟨p8, c8, rfl, -⟩ := hr8
  obtain ⟨X, hX⟩ : ∃ X, strR b = X := ⟨_, rfl⟩
  rw [hX] at hs1 hs2
  obtain ⟨z0, z1, z2⟩ := hI8.c
  obtain ⟨t0, t1, t2⟩ := hi8.c
  clear hE hb8 hX hI8 hi8 y0 y1 y2
  go_wp2_with fail
  refine Calls.mono (same_w (Hr8.out) (Hv.out.below Hb8.out) (by omega) (by omega) true (by simp)) ?_
  rintro _ w9 ⟨rfl, hb9⟩
  have Hb9 := Lib.hid (Below.thn Hb8.out hb9)
  clear hs1 hs2 z0 z1 z2 t0 t1 t2 hb9
  go_wp2_with fail
  refine Calls.mono (ctells_law _) ?_
  rintro _ w10 ⟨rfl, hb10⟩
  go_wp2
  go_ret
  exact ⟨rfl, Below.thn Hb9.out hb10⟩
end Go.Proofs.YtoladolgmeanhaaGreat

namespace Go.Proofs.YtoladolgmeanhaaGreat
open Go.ChangeShapes Go.WideShapes Go.ChangeAt Go.RowKit Go.Joins Go.Deep
theorem iv_cellsD : Tryz.prog.cellsOf 24 = 3 := by kernel_rfl
set_option maxRecDepth 100000 in
theorem open_u32sD {H : Type} {enc : TypeId × Value → H} {W : World} {base n : Nat} {v : Value} {y : DataW H × List MemPlace} (hv : Cell.okWide Tryz.prog W .any base 22 v) (h : DataW.trod enc Tryz.prog W 0 (fun _ => true) true n 22 [v] = some y) :
    ∃ (p : Option Addr) (c : Nat) (S : List Nat), v = .slice p S.length c ∧ RowAt encP 1 W p S ∧ (∀ v ∈ S, v < 4294967296) ∧ S.length ≤ c ∧ c ≤ 9223372036854775807 ∧ (p = none → c = 0) := by
  rcases open_slice1 Tryz.underlying22 (by kernel_rfl) h with ⟨hcs, -⟩ | ⟨a, len, cap, m, n, V, D, Pl, hcs, hb, hl, hm, hmm, hx, hi⟩
  · simp at hcs
    subst hcs
    exact ⟨none, 0, [], rfl, .inl ⟨rfl, rfl⟩, fun v h => (by cases h), Nat.le_refl _, by decide, fun _ => rfl⟩
  · simp at hcs
    subst hcs
    have hh : W.has Tryz.prog .any base a 41 cap := by
      have h1 := hv
      simp only [Cell.okWide, Tryz.underlying22, Cell.ok] at h1
      exact h1.2.2
    obtain ⟨-, hspot, row, cells, hsh, -⟩ := hh
    have hlt : a.block < W.heap.size := by
      unfold World.shape? at hsh
      cases hq : W.heap[a.block]? with
      | none => rw [hq] at hsh; cases hsh
      | some o => exact (Array.getElem?_eq_some_iff.1 hq).1
    obtain ⟨ab, ao, asp⟩ := a
    dsimp only at hspot hlt
    subst hspot
    have H : ∀ i, i < len → ∃ x : Nat, x < 4294967296 ∧ W.cell? ⟨ab, ao + i, none⟩ = some (.int .u32 (x : Int)) := fun i him => by
      obtain ⟨hc, ht⟩ := hi i (by rw [hmm]; simp; omega)
      obtain ⟨x, e, -, wx⟩ := DataW.trod_int Tryz.underlying41 ht
      simp at e
      rw [e] at hc
      rw [Addr.add_lit] at hc
      have hw := wf_u32b wx
      exact ⟨x.toNat, by omega, by rw [Int.toNat_of_nonneg hw.1]; exact hc⟩
    obtain ⟨f, hf'⟩ : ∃ f : Nat → Nat, ∀ i, i < len → f i < 4294967296 ∧ W.cell? ⟨ab, ao + i, none⟩ = some (.int .u32 (f i : Int)) := by
      classical
      refine ⟨fun i => if h : i < len then Classical.choose (H i h) else default, fun i him => ?_⟩
      simp only [him, dif_pos]
      exact Classical.choose_spec (H i him)
    have hln : ((List.range len).map f).length = len := by simp
    refine ⟨some ⟨ab, ao, none⟩, cap, (List.range len).map f, by rw [hln], .inr ⟨_, _, rfl, hlt, fun i x hx j u hu => ?_⟩, fun v hv => ?_, by rw [hln]; exact hl, hm, fun h => by cases h⟩
    · rw [List.getElem?_map] at hx
      cases hr : (List.range len)[i]? with
      | none => rw [hr] at hx; cases hx
      | some q =>
        rw [hr] at hx
        obtain ⟨hlt2, hq⟩ := List.getElem?_eq_some_iff.1 hr
        rw [List.getElem_range] at hq
        subst hq
        cases hx
        obtain ⟨hj, hju⟩ := List.getElem?_eq_some_iff.1 hu
        have hj0 : j = 0 := by simp [encP] at hj; omega
        subst hj0
        simp [encP] at hju
        subst hju
        have := (hf' i (by simpa using hlt2)).2
        simpa [pxv] using this
    · obtain ⟨i, hi', rfl⟩ := List.mem_map.1 hv
      exact (hf' i (by simpa using hi')).1
set_option maxRecDepth 100000 in
theorem open_imgD {H : Type} {enc : TypeId × Value → H} {W : World} {base : Nat} {v : Value} {d : DataW H} {p : List MemPlace} (hv : Value.okWide Tryz.prog W .any base 24 v) (h : DataW.Trod enc Tryz.prog W 0 (fun _ => true) true 24 v d p) :
    ∃ (wd ht : Int) (q : Option Addr) (n c : Nat) (S : List Nat), v = .agg #[.int .i64 wd, .int .i64 ht, .slice q n c] ∧ RwP W (.slice q n c) S ∧ (∀ x ∈ S, x < 4294967296) := by
  obtain ⟨v0, v1, v2, y0, y1, y2, n, rfl, rfl, rfl, h0, h1, h2⟩ := open_agg3 Tryz.underlying24 (by kernel_rfl) iv_cellsD hv h
  obtain ⟨a, e0, -, wa⟩ := DataW.trod_int Tryz.underlying3 h0
  obtain ⟨b, e1, -, wb⟩ := DataW.trod_int Tryz.underlying3 h1
  simp at e0 e1
  subst e0 e1
  have hc : Cell.okWide Tryz.prog W .any base 22 v2 := by
    have h3 := hv
    unfold Value.okWide at h3
    rw [Tryz.underlying24] at h3
    obtain ⟨cs, hcs, -, ts, hts, -, hall⟩ := h3
    cases hcs
    have ht : Tryz.prog.cellTypes Tryz.prog.depth 24 = some [3, 3, 22] := by kernel_rfl
    rw [ht] at hts
    cases hts
    obtain ⟨u, hu, hok⟩ := hall 2 v2 rfl
    cases hu
    exact hok
  obtain ⟨q, c, S, rfl, hr, hu, hl, hm, hz⟩ := open_u32sD hc h2
  exact ⟨a, b, q, S.length, c, S, rfl, ⟨⟨q, c, rfl, hl, by simp only [maxLen]; exact hm, hr⟩, fun c' h => by injection h with h1 _ h3; rw [← h3]; exact hz h1⟩, hu⟩
end Go.Proofs.YtoladolgmeanhaaGreat
