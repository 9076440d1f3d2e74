/- rle: the document's Same and Cut. -/
import Derived.Test.YtonhcdhlinlncaaRleB
namespace Go.Proofs.Ytonhcdhlinlncaa
open Go.RowKit

attribute [local go_sem] Oper.semAt_some

/-- The cells of a row of pixels. -/
theorem RowAt.pxs {W : World} {p : Option Addr} {xs : List Nat} (h : RowAt encP 1 W p xs) (h0 : 0 < xs.length) : ∃ b off, p = some ⟨b, off, none⟩ ∧ ∀ i, i < xs.length → W.cell? ⟨b, off + i, none⟩ = some (.int .u32 (xs.getD i 0 : Int)) := by
  obtain ⟨b, off, e, -⟩ := h.px h0
  refine ⟨b, off, e, fun i hi => ?_⟩
  obtain ⟨b', off', e', h'⟩ := h.px hi
  rw [e] at e'; cases e'
  exact h'
theorem ext_getD {a b : List Nat} (h : a.length = b.length) (hx : ∀ i, i < a.length → a.getD i 0 = b.getD i 0) : a = b := by
  refine List.ext_getElem h (fun i h1 h2 => ?_)
  have := hx i h1
  rwa [List.getD_eq_getElem?_getD, List.getD_eq_getElem?_getD, List.getElem?_eq_getElem h1, List.getElem?_eq_getElem h2] at this

set_option maxRecDepth 20000 in
set_option maxHeartbeats 4000000 in
theorem rsame_any (p q : Option Addr) (c d : Nat) (a b : List Nat) (w : World) (hp : RowAt encP 1 w p a) (hq : RowAt encP 1 w q b) (ha : a.length ≤ 1048576) (hb : b.length ≤ 1048576) :
    Makes Try.prog 10 #[.slice p a.length c, .slice q b.length d] w (.bool (decide (a = b))) := by
  unfold Makes
  have Hp := Lib.hid hp
  have Hq := Lib.hid hq
  obtain ⟨n, hn⟩ : ∃ n, a.length = n := ⟨_, rfl⟩
  obtain ⟨m, hm⟩ : ∃ n, b.length = n := ⟨_, rfl⟩
  have Hn := Lib.hid hn
  have Hm := Lib.hid hm
  rw [hn] at ha ⊢
  rw [hm] at hb ⊢
  clear hp hq hn hm
  obtain ⟨r, hr⟩ : ∃ r, decide (a = b) = r := ⟨_, rfl⟩
  have Hr := Lib.hid hr
  rw [hr]
  clear hr
  go_enter Try.func10, Try.ntmps10
  by_cases hnm : n = m
  · subst hnm
    have d0 : ((n : Int) != (n : Int)) = false := by simp
    go_wp2_with fail
    go_loopw [5] (fun iv wr => ∃ i : Nat, iv = .int .i64 (i : Int) ∧ i ≤ n ∧ Hid (∀ j, j < i → a.getD j 0 = b.getD j 0) ∧ Hid (Below w.heap.size w wr)) (fun iv _ => n - (intOf iv).toNat)
    case atStart => exact ⟨0, rfl, Nat.zero_le _, Lib.hid (fun j hj => by omega), Lib.hid (Below.refl _ _)⟩
    case round =>
      obtain ⟨i, rfl, hi, HE, HB⟩ := hrel
      by_cases hin : i < n
      · have d1 : decide ((i : Int) < (n : Int)) = true := by simp; omega
        obtain ⟨g, off, rfl, hc⟩ := Hp.out.pxs (by rw [Hn.out]; omega)
        obtain ⟨g2, off2, rfl, hc2⟩ := Hq.out.pxs (by rw [Hm.out]; omega)
        have x0 := cell_later HB.out (hc i (by rw [Hn.out]; omega))
        have x1 := cell_later HB.out (hc2 i (by rw [Hm.out]; omega))
        obtain ⟨x, hx⟩ : ∃ x, a.getD i 0 = x := ⟨_, rfl⟩
        obtain ⟨y, hy⟩ : ∃ x, b.getD i 0 = x := ⟨_, rfl⟩
        rw [hx] at x0
        rw [hy] at x1
        have Hx := Lib.hid hx
        have Hy := Lib.hid hy
        have i0 : (0 : Int) ≤ (i : Int) := by omega
        have i1 : (i : Int) < (n : Int) := by omega
        clear hc hc2 hx hy
        by_cases hxy : x = y
        · have d2 : ((x : Int) != (y : Int)) = false := by simp; omega
          go_upto_region 6 with (fail)
          go_quiet (fail)
          rename_i nq
          have HB2 := Lib.hid (Below.drewN' HB.out nq)
          generalize wr.drewN nq = W2 at *
          clear x0 x1
          go_wp2
          go_roundw
          case rel => exact ⟨i + 1, by go_num, by omega, Lib.hid (fun j hj => by
            by_cases h : j < i
            · exact HE.out j h
            · rw [show j = i by omega, Hx.out, Hy.out, hxy]), HB2⟩
          case measure => simp [intOf]; omega
        · have d2 : ((x : Int) != (y : Int)) = true := by simp; omega
          obtain rfl : r = false := by
            rw [← Hr.out, decide_eq_false_iff_not]
            rintro rfl
            exact hxy (Hx.out.symm.trans Hy.out)
          go_upto_region 6 with (fail)
          go_quiet (fail)
          rename_i nq
          have HB2 := Lib.hid (Below.drewN' HB.out nq)
          generalize wr.drewN nq = W2 at *
          clear x0 x1
          go_wp2
          go_ret
          exact ⟨rfl, HB2.out⟩
      · obtain rfl : i = n := by omega
        have d1 : decide ((i : Int) < (i : Int)) = false := by simp
        obtain rfl : r = true := by
          rw [← Hr.out, decide_eq_true_eq]
          exact ext_getD (by rw [Hn.out, Hm.out]) (fun j hj => HE.out j (by rw [Hn.out] at hj; exact hj))
        go_wp2
        go_ret
        exact ⟨rfl, HB.out⟩
  · have d0 : ((n : Int) != (m : Int)) = true := by simp; omega
    obtain rfl : r = false := by
      rw [← Hr.out, decide_eq_false_iff_not]
      rintro rfl
      exact hnm (Hn.out.symm.trans Hm.out)
    go_wp2
    go_ret
    exact ⟨rfl, Below.refl _ _⟩

set_option maxRecDepth 20000 in
set_option maxHeartbeats 4000000 in
theorem rcut_any (p : Option Addr) (c : Nat) (l : List Nat) (w : World) (hp : RowAt encP 1 w p l) (hl : l.length ≤ 1048576) :
    Calls Try.prog 15 #[.slice p l.length c] w fun e w' => ∃ v', e = .returned v' ∧ w'.ownsRow w.heap.size 35 1 v' (l.map rlw).length ((l.map rlw).map pxv) ∧ Below w.heap.size w w' := by
  have Hp := Lib.hid hp
  obtain ⟨n, hn⟩ : ∃ n, l.length = n := ⟨_, rfl⟩
  have Hn := Lib.hid hn
  rw [hn] at hl ⊢
  clear hp hn
  go_enter Try.func15, Try.ntmps15
  go_wp2_with fail
  go_loopw [3, 4] (fun ov iv wr => ∃ i : Nat, iv = .int .i64 (i : Int) ∧ i ≤ n ∧ Hid (wr.ownsRow w.heap.size 35 1 ov i (((l.take i).map rlw).map pxv)) ∧ Hid (Below w.heap.size w wr)) (fun _ iv _ => n - (intOf iv).toNat)
  case atStart => exact ⟨0, rfl, Nat.zero_le _, Lib.hid (World.ownsRow_nil _ _ _ _), Lib.hid (Below.refl _ _)⟩
  case round =>
    obtain ⟨i, rfl, hi, HO, HB⟩ := hrel
    obtain ⟨vp, vc, rfl⟩ := owns_slice HO.out
    by_cases hin : i < n
    · have d1 : decide ((i : Int) < (n : Int)) = true := by simp; omega
      obtain ⟨g, off, rfl, hc⟩ := Hp.out.pxs (by rw [Hn.out]; omega)
      have x0 := cell_later HB.out (hc i (by rw [Hn.out]; omega))
      have Hs : Hid ((l.take (i + 1)).map rlw = (l.take i).map rlw ++ [rlw (l.getD i 0)]) := Lib.hid (by
        rw [List.take_succ_eq_append_getElem (by rw [Hn.out]; exact hin), List.map_append, List.getD_eq_getElem?_getD, List.getElem?_eq_getElem (by rw [Hn.out]; exact hin)]; rfl)
      obtain ⟨x, hx⟩ : ∃ x, l.getD i 0 = x := ⟨_, rfl⟩
      rw [hx] at x0 Hs
      obtain ⟨y, hy⟩ : ∃ y, rlw x = y := ⟨_, rfl⟩
      have hy2 : (x : Int) % 16777216 = (y : Int) := by rw [← hy]; simp [rlw]
      have hyb : y < 16777216 := by rw [← hy]; exact rlw_lt x
      rw [hy] at Hs
      have i0 : (0 : Int) ≤ (i : Int) := by omega
      have i1 : (i : Int) < (n : Int) := by omega
      have hs1 := HB.out.size
      clear hc hx hy
      go_wp2_with (at_builtin; refine wpList_append_one wr rfl (.tmp 11) (.tmp 17) 22 rfl w.heap.size 35 _ 4 pxv_info Try.underlying22 rfl (.slice vp i vc) i (((l.take i).map rlw).map pxv) rfl HO.out (.int .u32 (y : Int)) _ rfl rfl ?m3 ?m4 hs1 ?_)
      case m3 => simp only [maxLen]; omega
      case m4 => omega
      intro g1 cap1 w5 ho1 ht1 hg1
      have Ho1 : Hid (w5.ownsRow w.heap.size 35 1 (.slice (some ⟨g1, 0, none⟩) (i + 1) cap1) (i + 1) (((l.take (i + 1)).map rlw).map pxv)) := Lib.hid (by
        rw [Hs.out, List.map_append]
        simpa [pxv] using ho1)
      have Ht1 := Lib.hid (HB.out.trans (ht1.below hs1 (fun b hb => (HO.out.lt b hb).1)))
      clear ho1 ht1 hg1
      go_wp2
      go_roundw
      case rel => exact ⟨i + 1, by go_num, by omega, Ho1, Ht1⟩
      case measure => simp [intOf]; omega
    · obtain rfl : i = n := by omega
      have d1 : decide ((i : Int) < (i : Int)) = false := by simp
      go_wp2
      go_ret
      refine ⟨_, rfl, ?_, HB.out⟩
      have := HO.out
      rw [List.take_of_length_le (by rw [Hn.out]; exact Nat.le_refl _)] at this
      rw [List.length_map, Hn.out]
      exact this

end Go.Proofs.Ytonhcdhlinlncaa
