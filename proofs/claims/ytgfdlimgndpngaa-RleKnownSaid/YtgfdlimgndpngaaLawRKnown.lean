/- The walk of the statement RleKnown. -/
import Derived.Test.YtgfdlimgndpngaaRleK
namespace Go.Proofs.Ytgfdlimgndpngaa
open Go.RowKit

/-- A row of 257 whose first i have been stored. -/
def knR (i : Nat) : List Nat := List.replicate i 4278848268 ++ List.replicate (257 - i) 0
theorem knR_len {i : Nat} (h : i ≤ 257) : (knR i).length = 257 := by simp [knR]; omega
theorem knR_set {i : Nat} (h : i < 257) : (knR i).set i 4278848268 = knR (i + 1) := by
  unfold knR
  rw [List.set_append_right _ _ (by simp), List.length_replicate, Nat.sub_self, show 257 - i = (257 - (i + 1)) + 1 by omega, List.replicate_succ, List.set_cons_zero, List.replicate_succ' (n := i)]
  simp
theorem made_px (n : Nat) : madeCells #[Value.int .u32 0] n = ((List.replicate n 0).map pxv).toArray := by
  refine Array.ext (by simp [size_madeCells]) (fun i h1 h2 => ?_)
  simp [madeCells, Nat.mod_one, pxv]
theorem make_257 (w : World) : (Instr.makeSlice 22 (.int .i64 257) (.int .i64 257)).run Try.prog w = .ok (.slice (some ⟨w.heap.size, 0, none⟩) 257 257) (w.alloc (.cells ((knR 0).map pxv).toArray 34)) := by
  obtain ⟨i, hi, hz, hs, hb⟩ := info_parts pxv_info
  have h := run_make (P := Try.prog) w 22 34 i _ Try.underlying22 hi hz .i64 .i64 257 257 (by omega) (Int.le_refl _) (by rw [hb]; omega) (by omega)
  rw [h]
  simp only [hs, Nat.mul_one]
  rw [show (Value.int IntKind.u32 0).cells = #[Value.int .u32 0] from rfl, show Int.toNat 257 = 257 from rfl, made_px]
  rfl
theorem ex_257 : rlBs (rlO (knR 257)) = [255, 10, 11, 12, 0, 10, 11, 12] := by decide +kernel
theorem ex_str257 : strR [255, 10, 11, 12, 0, 10, 11, 12] = { data := #[255, 10, 11, 12, 0, 10, 11, 12] } := by decide +kernel
theorem ex_d1 : rlD [1, 1, 2, 3] 1 = ([], 131) := by decide +kernel
theorem ex_d2 : rlD [1, 1, 2] 2 = ([], 131) := by decide +kernel
theorem ex_d3 : rlD [] 0 = ([], 0) := by decide +kernel
theorem ex_d4 : rlD [] (-1) = ([], 1) := by decide +kernel
theorem ex_d5 : rlD [] 65537 = ([], 1) := by decide +kernel
theorem ex_d6 : rlD [] 65536 = ([], 131) := by decide +kernel
theorem ex_d7 : rlD [0, 1, 2, 3] 2 = ([], 131) := by decide +kernel
theorem ex_d8 : rlD [0, 1, 2, 3, 0, 1, 2, 3] 2 = ([66051, 66051], 0) := by decide +kernel
theorem row_nil (w : World) : Row enc8 1 w (.slice none 0 0) [] := ⟨none, 0, rfl, Nat.le_refl _, by simp [maxLen], .inl ⟨rfl, rfl⟩⟩
theorem row_nilP (w : World) : Row encP 1 w (.slice none 0 0) [] := ⟨none, 0, rfl, Nat.le_refl _, by simp [maxLen], .inl ⟨rfl, rfl⟩⟩
theorem knR_row {w : World} {B : Nat} {i : Nat} (hi : i ≤ 257) (h : w.heap[B]? = some (.cells ((knR i).map pxv).toArray 34)) : Row encP 1 w (.slice (some ⟨B, 0, none⟩) 257 257) (knR i) := by
  refine ⟨_, 257, by rw [knR_len hi], by rw [knR_len hi]; exact Nat.le_refl _, by simp [maxLen], .inr ⟨B, 0, rfl, lt_heap h, fun j x hj k u hu => ?_⟩⟩
  have hk : k < 1 := (List.getElem?_eq_some_iff.1 hu).1
  obtain rfl : k = 0 := by omega
  have hu2 : u = pxv x := by simpa [encP] using hu.symm
  rw [hu2, Nat.mul_one, Nat.add_zero, Nat.zero_add]
  exact cell_heap h (by simp [List.getElem?_map, hj])

set_option maxRecDepth 20000 in
set_option maxHeartbeats 8000000 in
theorem rknown_any (w : World) : Makes Try.prog 7 #[] w (.bool true) := by
  unfold Makes
  have hmk := make_257
  go_enter Try.func7, Try.ntmps7
  go_wp2_with fail
  have hb1 := Below.al1 w (.cells ((knR 0).map pxv).toArray 34)
  have hz1 := World.alloc_heap_new w (.cells ((knR 0).map pxv).toArray 34)
  generalize w.alloc (.cells ((knR 0).map pxv).toArray 34) = w1 at *
  obtain ⟨Z, hZ⟩ : ∃ Z, w.heap.size = Z := ⟨_, rfl⟩
  have HZe := Lib.hid hZ
  rw [hZ] at hz1 ⊢
  have Hz1 := Lib.hid hz1
  have Hb1 := Lib.hid hb1
  clear hb1 hz1 hZ hmk
  go_loopw [2] (fun iv wr => ∃ i : Nat, iv = .int .i64 (i : Int) ∧ i ≤ 257 ∧ Hid (wr.heap[Z]? = some (.cells ((knR i).map pxv).toArray 34)) ∧ Hid (Turns (fun b => b = Z) w1 wr)) (fun iv _ => 257 - (intOf iv).toNat)
  case atStart => exact ⟨0, rfl, Nat.zero_le _, Hz1, Lib.hid (Turns.refl _ _)⟩
  case round =>
    obtain ⟨i, rfl, hi, HZ, HT⟩ := hrel
    by_cases hin : i < 257
    · have d1 : decide ((i : Int) < 257) = true := by simp; omega
      have i0 : (0 : Int) ≤ (i : Int) := by omega
      have i1 : (i : Int) < 257 := by omega
      have x0 : wr.cell? ⟨Z, i, none⟩ = some (.int .u32 ((knR i).getD i 0 : Int)) := cell_heap HZ.out (by
        rw [List.getElem?_toArray, List.getElem?_map, List.getElem?_eq_getElem (by rw [knR_len (by omega)]; exact hin), List.getD_eq_getElem?_getD, List.getElem?_eq_getElem (by rw [knR_len (by omega)]; exact hin)]; rfl)
      have f0 : wr.frozen? ⟨Z, i, none⟩ = false := by have h := HZ.out; simp [World.frozen?, h]
      obtain ⟨x, hx⟩ : ∃ x, (knR i).getD i 0 = x := ⟨_, rfl⟩
      rw [hx] at x0
      have HZ2 : Hid ((wr.setCell ⟨Z, i, none⟩ (.int .u32 4278848268)).heap[Z]? = some (.cells ((knR (i + 1)).map pxv).toArray 34)) := Lib.hid (by
        obtain ⟨hlt, hk⟩ := Array.getElem?_eq_some_iff.1 HZ.out
        show (wr.heap.modify Z _)[Z]? = _
        rw [Array.getElem?_eq_getElem (by rw [Array.size_modify]; exact hlt), Array.getElem_modify_self, hk, ← knR_set hin, List.map_set, ← List.setIfInBounds_toArray]
        rfl)
      have HT2 : Hid (Turns (fun b => b = Z) w1 (wr.setCell ⟨Z, i, none⟩ (.int .u32 4278848268))) := Lib.hid (HT.out.set rfl _)
      clear hx
      go_wp2
      go_roundw
      case rel => exact ⟨i + 1, by go_num, by omega, HZ2, HT2⟩
      case measure => simp [intOf]; omega
    · obtain rfl : i = 257 := by omega
      have d1 : decide (((257 : Nat) : Int) < 257) = false := by decide
      have Hb : Hid (Below w.heap.size w wr) := Lib.hid (Hb1.out.trans (HT.out.below Hb1.out.size (fun b hb => by rw [HZe.out]; omega)))
      have HR := Lib.hid (knR_row (Nat.le_refl _) HZ.out)
      have hzl := lt_heap HZ.out
      clear HZ HT
      go_wp2_with fail
      refine Calls.mono (rdec_row 1 (row_lit8 wr [1, 1, 2, 3] (by decide)) (by decide) (by decide) (by decide) _ ex_d1) ?_
      rintro _ u0 ⟨p0, c0, rfl, ho0, hb0⟩
      have Hb := Lib.hid (Below.thn Hb.out (Below.thn (Below.al1 wr _) hb0))
      have HR := Lib.hid (HR.out.below (Below.thn (Below.al1 wr _) hb0))
      clear ho0 hb0
      simp only [List.length_nil]
      go_wp2_with fail
      refine Calls.mono (rdec_row 2 (row_lit8 u0 [1, 1, 2] (by decide)) (by decide) (by decide) (by decide) _ ex_d2) ?_
      rintro _ u1 ⟨p1, c1, rfl, ho1, hb1⟩
      have Hb := Lib.hid (Below.thn Hb.out (Below.thn (Below.al1 u0 _) hb1))
      have HR := Lib.hid (HR.out.below (Below.thn (Below.al1 u0 _) hb1))
      clear ho1 hb1
      simp only [List.length_nil]
      go_wp2_with fail
      refine Calls.mono (rdec_row 0 (row_nil u1) (by decide) (by decide) (by decide) _ ex_d3) ?_
      rintro _ u2 ⟨p2, c2, rfl, ho2, hb2⟩
      have Hb := Lib.hid (Below.thn Hb.out hb2)
      have HR := Lib.hid (HR.out.below hb2)
      clear ho2 hb2
      simp only [List.length_nil]
      go_wp2_with fail
      refine Calls.mono (rdec_row (-1) (row_nil u2) (by decide) (by decide) (by decide) _ ex_d4) ?_
      rintro _ u3 ⟨p3, c3, rfl, ho3, hb3⟩
      have Hb := Lib.hid (Below.thn Hb.out hb3)
      have HR := Lib.hid (HR.out.below hb3)
      clear ho3 hb3
      simp only [List.length_nil]
      go_wp2_with fail
      refine Calls.mono (rdec_row 65537 (row_nil u3) (by decide) (by decide) (by decide) _ ex_d5) ?_
      rintro _ u4 ⟨p4, c4, rfl, ho4, hb4⟩
      have Hb := Lib.hid (Below.thn Hb.out hb4)
      have HR := Lib.hid (HR.out.below hb4)
      clear ho4 hb4
      simp only [List.length_nil]
      go_wp2_with fail
      refine Calls.mono (rdec_row 65536 (row_nil u4) (by decide) (by decide) (by decide) _ ex_d6) ?_
      rintro _ u5 ⟨p5, c5, rfl, ho5, hb5⟩
      have Hb := Lib.hid (Below.thn Hb.out hb5)
      have HR := Lib.hid (HR.out.below hb5)
      clear ho5 hb5
      simp only [List.length_nil]
      go_wp2_with fail
      refine Calls.mono (rdec_row 2 (row_lit8 u5 [0, 1, 2, 3] (by decide)) (by decide) (by decide) (by decide) _ ex_d7) ?_
      rintro _ u6 ⟨p6, c6, rfl, ho6, hb6⟩
      have Hb := Lib.hid (Below.thn Hb.out (Below.thn (Below.al1 u5 _) hb6))
      have HR := Lib.hid (HR.out.below (Below.thn (Below.al1 u5 _) hb6))
      clear ho6 hb6
      simp only [List.length_nil]
      go_wp2_with fail
      refine Calls.mono (rdec_row 2 (row_lit8 u6 [0, 1, 2, 3, 0, 1, 2, 3] (by decide)) (by decide) (by decide) (by decide) _ ex_d8) ?_
      rintro _ u7 ⟨p7, c7, rfl, ho7, hb7⟩
      have Hb := Lib.hid (Below.thn Hb.out (Below.thn (Below.al1 u6 _) hb7))
      have HR := Lib.hid (HR.out.below (Below.thn (Below.al1 u6 _) hb7))
      clear ho7 hb7
      simp only [List.length_cons, List.length_nil, Nat.zero_add, Nat.reduceAdd]
      have h32 : ∀ x ∈ knR 257, x < 4294967296 := by decide +kernel
      go_wp2_with fail
      refine Calls.mono (renc_row HR.out h32 (by decide)) ?_
      rintro _ u8 ⟨p8, c8, rfl, ho8, hb8⟩
      have hs8 := strR_row (own_rowB ho8)
      rw [ex_257, ex_str257] at hs8
      have Hb := Lib.hid (Below.thn Hb.out hb8)
      clear ho8 hb8 h32
      generalize 4 * (rlO (knR 257)).length = q8 at *
      go_wp2_with fail
      refine Calls.mono (renc_row (row_nilP u8) (by decide) (by decide)) ?_
      rintro _ u9 ⟨p9, c9, rfl, -, hb9⟩
      have Hb := Lib.hid (Below.thn Hb.out hb9)
      clear hb9
      simp only [rlO, List.length_nil, Nat.mul_zero]
      go_wp2_with fail
      refine Calls.mono (tells_law u9) ?_
      rintro _ u10 ⟨rfl, hb10⟩
      have Hb := Lib.hid (Below.thn Hb.out hb10)
      clear hb10
      go_wp2
      go_ret
      exact ⟨rfl, Hb.out⟩

end Go.Proofs.Ytgfdlimgndpngaa
