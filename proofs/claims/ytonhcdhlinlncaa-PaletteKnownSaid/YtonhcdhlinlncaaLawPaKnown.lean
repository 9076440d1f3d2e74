/- The walk of the statement PaletteKnown. -/
import Derived.Test.YtonhcdhlinlncaaPalV
import Derived.BigRegion
import Derived.Deep.RegionLaw
namespace Go.Proofs.Ytonhcdhlinlncaa
open Go.RowKit

theorem pkn_nilP (w : World) : Row encP 1 w (.slice none 0 0) [] := ⟨none, 0, rfl, Nat.le_refl _, by simp [maxLen], .inl ⟨rfl, rfl⟩⟩
theorem pkn_nil8 (w : World) : Row enc8 1 w (.slice none 0 0) [] := ⟨none, 0, rfl, Nat.le_refl _, by simp [maxLen], .inl ⟨rfl, rfl⟩⟩
theorem pkn_one : plE [66051] = ([0, 1, 2, 3], true) := by decide +kernel
theorem pkn_str : strR [0, 1, 2, 3] = { data := #[0, 1, 2, 3] } := by decide +kernel
def obK (l : List Nat) : Obj := .cells (l.map u8v).toArray 5
def kObjs (B : Nat) : List Obj := [obK [1, 1, 2, 3, 4, 5, 6, 8], obK [1, 1, 2, 3, 4, 5, 6, 4], obK [1, 1, 2, 3, 4, 5, 6, 4, 0], obK [0, 1, 2, 3], obK [0, 1, 2, 3], obK [0, 1, 2, 3], obK [16], obK [0, 1, 2], obK [2, 0, 0, 1, 0, 0, 2, 0, 0, 3, 3], obK [2, 0, 0, 1, 0, 0, 2, 0, 0, 3, 2], obK [2, 0, 0, 1, 0, 0, 2, 0, 0, 3, 4], obK [0, 1, 2, 3, 0],
  .cells #[.slice (some ⟨B, 0, none⟩) 8 8, .int .i64 3, .int .i64 131, .slice (some ⟨(B + 1), 0, none⟩) 8 8, .int .i64 9, .int .i64 131, .slice (some ⟨(B + 2), 0, none⟩) 9 9, .int .i64 3, .int .i64 131, .slice (some ⟨(B + 3), 0, none⟩) 4 4, .int .i64 0, .int .i64 1, .slice (some ⟨(B + 4), 0, none⟩) 4 4, .int .i64 65537, .int .i64 1, .slice (some ⟨(B + 5), 0, none⟩) 4 4, .int .i64 65536, .int .i64 0, .slice none 0 0, .int .i64 1, .int .i64 131, .slice (some ⟨(B + 6), 0, none⟩) 1 1, .int .i64 1, .int .i64 131, .slice (some ⟨(B + 7), 0, none⟩) 3 3, .int .i64 1, .int .i64 131, .slice (some ⟨(B + 8), 0, none⟩) 11 11, .int .i64 1, .int .i64 131, .slice (some ⟨(B + 9), 0, none⟩) 11 11, .int .i64 1, .int .i64 0, .slice (some ⟨(B + 10), 0, none⟩) 11 11, .int .i64 1, .int .i64 131, .slice (some ⟨(B + 11), 0, none⟩) 5 5, .int .i64 1, .int .i64 131] 38]
theorem k_world (w : World) : World.alloc (World.alloc (World.alloc (World.alloc (World.alloc (World.alloc (World.alloc (World.alloc (World.alloc (World.alloc (World.alloc (World.alloc (World.alloc (w) (.cells #[.int .u8 1, .int .u8 1, .int .u8 2, .int .u8 3, .int .u8 4, .int .u8 5, .int .u8 6, .int .u8 8] 5)) (.cells #[.int .u8 1, .int .u8 1, .int .u8 2, .int .u8 3, .int .u8 4, .int .u8 5, .int .u8 6, .int .u8 4] 5)) (.cells #[.int .u8 1, .int .u8 1, .int .u8 2, .int .u8 3, .int .u8 4, .int .u8 5, .int .u8 6, .int .u8 4, .int .u8 0] 5)) (.cells #[.int .u8 0, .int .u8 1, .int .u8 2, .int .u8 3] 5)) (.cells #[.int .u8 0, .int .u8 1, .int .u8 2, .int .u8 3] 5)) (.cells #[.int .u8 0, .int .u8 1, .int .u8 2, .int .u8 3] 5)) (.cells #[.int .u8 16] 5)) (.cells #[.int .u8 0, .int .u8 1, .int .u8 2] 5)) (.cells #[.int .u8 2, .int .u8 0, .int .u8 0, .int .u8 1, .int .u8 0, .int .u8 0, .int .u8 2, .int .u8 0, .int .u8 0, .int .u8 3, .int .u8 3] 5)) (.cells #[.int .u8 2, .int .u8 0, .int .u8 0, .int .u8 1, .int .u8 0, .int .u8 0, .int .u8 2, .int .u8 0, .int .u8 0, .int .u8 3, .int .u8 2] 5)) (.cells #[.int .u8 2, .int .u8 0, .int .u8 0, .int .u8 1, .int .u8 0, .int .u8 0, .int .u8 2, .int .u8 0, .int .u8 0, .int .u8 3, .int .u8 4] 5)) (.cells #[.int .u8 0, .int .u8 1, .int .u8 2, .int .u8 3, .int .u8 0] 5)) (.cells #[.slice (some ⟨w.heap.size, 0, none⟩) 8 8, .int .i64 3, .int .i64 131, .slice (some ⟨w.heap.size + 1, 0, none⟩) 8 8, .int .i64 9, .int .i64 131, .slice (some ⟨w.heap.size + 1 + 1, 0, none⟩) 9 9, .int .i64 3, .int .i64 131, .slice (some ⟨w.heap.size + 1 + 1 + 1, 0, none⟩) 4 4, .int .i64 0, .int .i64 1, .slice (some ⟨w.heap.size + 1 + 1 + 1 + 1, 0, none⟩) 4 4, .int .i64 65537, .int .i64 1, .slice (some ⟨w.heap.size + 1 + 1 + 1 + 1 + 1, 0, none⟩) 4 4, .int .i64 65536, .int .i64 0, .slice none 0 0, .int .i64 1, .int .i64 131, .slice (some ⟨w.heap.size + 1 + 1 + 1 + 1 + 1 + 1, 0, none⟩) 1 1, .int .i64 1, .int .i64 131, .slice (some ⟨w.heap.size + 1 + 1 + 1 + 1 + 1 + 1 + 1, 0, none⟩) 3 3, .int .i64 1, .int .i64 131, .slice (some ⟨w.heap.size + 1 + 1 + 1 + 1 + 1 + 1 + 1 + 1, 0, none⟩) 11 11, .int .i64 1, .int .i64 131, .slice (some ⟨w.heap.size + 1 + 1 + 1 + 1 + 1 + 1 + 1 + 1 + 1, 0, none⟩) 11 11, .int .i64 1, .int .i64 0, .slice (some ⟨w.heap.size + 1 + 1 + 1 + 1 + 1 + 1 + 1 + 1 + 1 + 1, 0, none⟩) 11 11, .int .i64 1, .int .i64 131, .slice (some ⟨w.heap.size + 1 + 1 + 1 + 1 + 1 + 1 + 1 + 1 + 1 + 1 + 1, 0, none⟩) 5 5, .int .i64 1, .int .i64 131] 38) = (kObjs w.heap.size).foldl World.alloc w := rfl
theorem k_keeps : ∀ (l : List Obj) (w : World), Below w.heap.size w (l.foldl World.alloc w) ∧ (l.foldl World.alloc w).heap.size = w.heap.size + l.length
  | [], w => ⟨Below.refl _ _, rfl⟩
  | o :: l, w => by
    obtain ⟨h1, h2⟩ := k_keeps l (w.alloc o)
    refine ⟨Below.thn (Below.al1 w o) h1, ?_⟩
    rw [List.foldl_cons, h2]
    simp; omega

/-- A row of the table. -/
structure RowK (W : World) (T i n : Nat) (p : Option Addr) (c : Nat) (l : List Nat) (N : Int) (A : List Nat) (e : Int) : Prop where
  c0 : W.cell? ⟨T, i * 3, none⟩ = some (.slice p n c)
  c1 : W.cell? ⟨T, i * 3 + 1, none⟩ = some (.int .i64 N)
  c2 : W.cell? ⟨T, i * 3 + 2, none⟩ = some (.int .i64 e)
  row : Row enc8 1 W (.slice p n c) l
  b : ∀ x ∈ l, x < 256
  n11 : n ≤ 11
  dec : plD l N = (A, e)
  pos : (decide (0 < A.length)) = decide (e = 0)

theorem obK_row {W : World} {b : Nat} {l : List Nat} (h : W.heap[b]? = some (obK l)) (hl : l.length ≤ 1000) : Row enc8 1 W (.slice (some ⟨b, 0, none⟩) l.length l.length) l :=
  ⟨_, _, rfl, Nat.le_refl _, by simp only [maxLen]; omega, .inr ⟨b, 0, rfl, lt_heap h, fun i x hi j u hu => by
    have hj : j < 1 := by
      have := (List.getElem?_eq_some_iff.1 hu).1
      simpa [enc8] using this
    obtain rfl : j = 0 := by omega
    simp [enc8] at hu
    subst hu
    rw [Nat.mul_one, Nat.add_zero, Nat.zero_add]
    exact cell_heap h (by rw [List.getElem?_toArray, List.getElem?_map, hi]; rfl)⟩⟩
theorem pkn_big : ∃ A, plD [0, 1, 2, 3] 65536 = (A, 0) ∧ 0 < A.length := by
  have hP : plP [66051] [] 65536 = _ := plP_some (by decide) (fun i _ => by
    show 0 / 2 ^ (0 * i) % 2 ^ 0 < 1
    rw [Nat.pow_zero, Nat.mod_one]; decide) (by show 0 / 2 ^ (0 * 65536) = 0; rw [Nat.zero_mul])
  refine ⟨_, plD_some (l := [0, 1, 2, 3]) (N := 65536) (by decide) (by unfold plQ; decide) hP, ?_⟩
  rw [List.length_map, plG_len]; decide

theorem k_rows {w W : World} (h : (kObjs w.heap.size).foldl World.alloc w = W) : ∀ i, i < 13 → ∃ n p c l N A e, RowK W (w.heap.size + 12) i n p c l N A e := by
  subst h
  intro i hi
  obtain ⟨B, hB⟩ : ∃ B, w.heap.size = B := ⟨_, rfl⟩
  have hp : ∀ (i : Nat) (o : Obj), (kObjs B)[i]? = some o → ((kObjs B).foldl World.alloc w).heap[B + i]? = some o := fun i o ho => by
    have := (heap_pushed (kObjs B) w i o).2 ho
    rwa [hB] at this
  rw [hB]
  have hT := hp 12 _ rfl
  obtain ⟨A5, hA5, hA5p⟩ := pkn_big
  have hi : i = 0 ∨ i = 1 ∨ i = 2 ∨ i = 3 ∨ i = 4 ∨ i = 5 ∨ i = 6 ∨ i = 7 ∨ i = 8 ∨ i = 9 ∨ i = 10 ∨ i = 11 ∨ i = 12 := by omega
  rcases hi with rfl | rfl | rfl | rfl | rfl | rfl | rfl | rfl | rfl | rfl | rfl | rfl | rfl
  · exact ⟨_, _, _, [1, 1, 2, 3, 4, 5, 6, 8], 3, [], 131, ⟨cell_heap hT rfl, cell_heap hT rfl, cell_heap hT rfl, obK_row (hp 0 _ rfl) (by decide), by decide, by decide, by decide +kernel, by decide⟩⟩
  · exact ⟨_, _, _, [1, 1, 2, 3, 4, 5, 6, 4], 9, [], 131, ⟨cell_heap hT rfl, cell_heap hT rfl, cell_heap hT rfl, obK_row (hp 1 _ rfl) (by decide), by decide, by decide, by decide +kernel, by decide⟩⟩
  · exact ⟨_, _, _, [1, 1, 2, 3, 4, 5, 6, 4, 0], 3, [], 131, ⟨cell_heap hT rfl, cell_heap hT rfl, cell_heap hT rfl, obK_row (hp 2 _ rfl) (by decide), by decide, by decide, by decide +kernel, by decide⟩⟩
  · exact ⟨_, _, _, [0, 1, 2, 3], 0, [], 1, ⟨cell_heap hT rfl, cell_heap hT rfl, cell_heap hT rfl, obK_row (hp 3 _ rfl) (by decide), by decide, by decide, by decide +kernel, by decide⟩⟩
  · exact ⟨_, _, _, [0, 1, 2, 3], 65537, [], 1, ⟨cell_heap hT rfl, cell_heap hT rfl, cell_heap hT rfl, obK_row (hp 4 _ rfl) (by decide), by decide, by decide, by decide +kernel, by decide⟩⟩
  · exact ⟨_, _, _, [0, 1, 2, 3], 65536, A5, 0, ⟨cell_heap hT rfl, cell_heap hT rfl, cell_heap hT rfl, obK_row (hp 5 _ rfl) (by decide), by decide, by decide, hA5, by simp [hA5p]⟩⟩
  · exact ⟨0, none, 0, [], 1, [], 131, ⟨cell_heap hT rfl, cell_heap hT rfl, cell_heap hT rfl, pkn_nil8 _, by decide, by decide, by decide +kernel, by decide⟩⟩
  · exact ⟨_, _, _, [16], 1, [], 131, ⟨cell_heap hT rfl, cell_heap hT rfl, cell_heap hT rfl, obK_row (hp 6 _ rfl) (by decide), by decide, by decide, by decide +kernel, by decide⟩⟩
  · exact ⟨_, _, _, [0, 1, 2], 1, [], 131, ⟨cell_heap hT rfl, cell_heap hT rfl, cell_heap hT rfl, obK_row (hp 7 _ rfl) (by decide), by decide, by decide, by decide +kernel, by decide⟩⟩
  · exact ⟨_, _, _, [2, 0, 0, 1, 0, 0, 2, 0, 0, 3, 3], 1, [], 131, ⟨cell_heap hT rfl, cell_heap hT rfl, cell_heap hT rfl, obK_row (hp 8 _ rfl) (by decide), by decide, by decide, by decide +kernel, by decide⟩⟩
  · exact ⟨_, _, _, [2, 0, 0, 1, 0, 0, 2, 0, 0, 3, 2], 1, [3], 0, ⟨cell_heap hT rfl, cell_heap hT rfl, cell_heap hT rfl, obK_row (hp 9 _ rfl) (by decide), by decide, by decide, by decide +kernel, by decide⟩⟩
  · exact ⟨_, _, _, [2, 0, 0, 1, 0, 0, 2, 0, 0, 3, 4], 1, [], 131, ⟨cell_heap hT rfl, cell_heap hT rfl, cell_heap hT rfl, obK_row (hp 10 _ rfl) (by decide), by decide, by decide, by decide +kernel, by decide⟩⟩
  · exact ⟨_, _, _, [0, 1, 2, 3, 0], 1, [], 131, ⟨cell_heap hT rfl, cell_heap hT rfl, cell_heap hT rfl, obK_row (hp 11 _ rfl) (by decide), by decide, by decide, by decide +kernel, by decide⟩⟩

set_option maxRecDepth 20000 in
set_option maxHeartbeats 8000000 in
theorem paknown_any (w : World) : Makes Try.prog 7 #[] w (.bool true) := by
  unfold Makes
  have h1 := row_litP w [66051] (by decide)
  go_enter Try.func7, Try.ntmps7
  go_wp2_with fail
  refine Calls.mono (penc_row (p := some ⟨w.heap.size, 0, none⟩) (n := 1) (c := 1) h1 (by decide) (by decide) _ pkn_one) ?_
  rintro _ w1 ⟨p1, c1, rfl, ho1, hb1⟩
  have Hb1 := Lib.hid (Below.thn (Below.al1 w _) hb1)
  have Hr1 := Lib.hid (own_rowB ho1)
  clear ho1 hb1 h1
  simp only [List.length_cons, List.length_nil, Nat.zero_add, Nat.reduceAdd] at Hr1 ⊢
  go_wp2_with fail
  refine Calls.mono (penc_row (pkn_nilP w1) (by decide) (by decide) ([], false) (plE_no (.inl (by decide)))) ?_
  rintro _ w2 ⟨p2, c2, rfl, ho2, hb2⟩
  have Hb2 := Lib.hid (Below.thn Hb1.out hb2)
  have Hr2 := Lib.hid (Hr1.out.below hb2)
  clear ho2 hb2
  simp only [List.length_nil]
  go_upto_region 4 with (fail)
  rw [k_world w2]
  have hrows := k_rows (w := w2) rfl
  obtain ⟨hb5, hs5⟩ := k_keeps (kObjs w2.heap.size) w2
  generalize (kObjs w2.heap.size).foldl World.alloc w2 = W5 at *
  generalize hTT : w2.heap.size + 1 + 1 + 1 + 1 + 1 + 1 + 1 + 1 + 1 + 1 + 1 + 1 = TT
  have hT : w2.heap.size + 12 = TT := hTT
  rw [hT] at hrows
  iterate 13 (generalize Value.agg _ = z)
  iterate 11 (generalize Value.slice (some ⟨_ + 1, 0, none⟩) _ _ = z)
  generalize Value.slice (some ⟨w2.heap.size, 0, none⟩) 8 8 = z
  have Hrows := Lib.hid hrows
  have Hb5 := Lib.hid hb5
  clear hrows hb5 hs5 hT hTT
  go_wp2_with fail
  go_loopw [6] (fun iv wr => ∃ i : Nat, iv = .int .i64 (i : Int) ∧ i ≤ 13 ∧ Hid (Below W5.heap.size W5 wr)) (fun iv _ => 13 - (intOf iv).toNat)
  case atStart => exact ⟨0, rfl, Nat.zero_le _, Lib.hid (Below.refl _ _)⟩
  case round =>
    obtain ⟨i, rfl, hi, HB⟩ := hrel
    by_cases hin : i < 13
    · have d1 : decide ((i : Int) < 13) = true := by simp; omega
      obtain ⟨n, p, c, l, N, A, e, HK⟩ := Hrows.out i hin
      have HK := Lib.hid HK
      have k0 : (0 : Int) ≤ (i : Int) := by omega
      have k1 : (i : Int) < 13 := by omega
      have HD : Hid (∀ W, Below wr.heap.size wr W → Calls Try.prog 12 #[.slice p n c, .int .i64 N] W fun er w' => ∃ p' c', er = .returned (.tuple #[.slice p' A.length c', .int .i64 e]) ∧ Below wr.heap.size wr w') := Lib.hid (fun W hW => Calls.mono (pdec_row N ((HK.out.row.below HB.out).below hW) HK.out.b (by have := HK.out.n11; omega) _ HK.out.dec) (by
        rintro _ w' ⟨p', c', rfl, -, hb⟩
        exact ⟨p', c', rfl, Below.thn hW hb⟩))
      have c0 := cell_later HB.out HK.out.c0
      have c1' := cell_later HB.out HK.out.c1
      have HC2 : Hid (∀ W, Below wr.heap.size wr W → W.cell? ⟨TT, i * 3 + 2, none⟩ = some (.int .i64 e)) := Lib.hid (fun W hW => cell_later hW (cell_later HB.out HK.out.c2))
      have hpos := HK.out.pos
      obtain ⟨M, hM⟩ : ∃ M, A.length = M := ⟨_, rfl⟩
      rw [hM] at HD hpos
      clear hM
      have e2 : (e != e) = false := by simp
      by_cases he : e = 0
      · subst he
        have hM : 0 < M := by simpa using hpos
        have d5 : decide ((M : Int) > 0) = true := by simp; omega
        have d5' : decide (0 < M) = true := by simpa using hM
        clear hpos
        go_upto_region 7 with (fail)
        go_region_with (go_at_call 12; refine Calls.mono (HD.out _ (by first | exact Below.drew (Below.refl _ _) | exact Below.refl _ _)) ?_; rintro _ we ⟨pe, ce, rfl, hbe⟩)
        all_goals
          have c2 := HC2.out _ hbe
          have HBe := Lib.hid (Below.thn HB.out hbe)
          clear c0 c1' hbe
          go_wp2
          go_roundw
          case rel => exact ⟨i + 1, by go_num, by omega, HBe⟩
          case measure => simp [intOf]; omega
      · have hM : M = 0 := by
          have h : ¬ 0 < M := by simpa [he] using hpos
          omega
        subst hM
        have d6 : (e == 0) = false := by simpa using he
        clear hpos
        go_upto_region 7 with (fail)
        go_region_with (go_at_call 12; refine Calls.mono (HD.out _ (by first | exact Below.drew (Below.refl _ _) | exact Below.refl _ _)) ?_; rintro _ we ⟨pe, ce, rfl, hbe⟩)
        all_goals
          have c2 := HC2.out _ hbe
          have HBe := Lib.hid (Below.thn HB.out hbe)
          clear c0 c1' hbe
          go_wp2
          go_roundw
          case rel => exact ⟨i + 1, by go_num, by omega, HBe⟩
          case measure => simp [intOf]; omega
    · obtain rfl : i = 13 := by omega
      have d1 : decide (((13 : Nat) : Int) < 13) = false := by decide
      have HBw := Lib.hid (Below.thn (Below.thn Hb2.out Hb5.out) HB.out)
      have hs := strR_row (Hr2.out.below (Below.thn Hb5.out HB.out))
      rw [pkn_str] at hs
      have HT := Lib.hid (ptells_law wr)
      go_wp2_with fail
      refine Calls.mono HT.out ?_
      rintro _ w9 ⟨rfl, hb9⟩
      have Hb9 := Lib.hid (Below.thn HBw.out hb9)
      clear hb9 hs
      go_wp2
      go_ret
      exact ⟨rfl, Hb9.out⟩

end Go.Proofs.Ytonhcdhlinlncaa
