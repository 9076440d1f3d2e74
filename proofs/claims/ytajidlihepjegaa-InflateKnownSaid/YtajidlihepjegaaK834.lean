/- inflate: the usual codes: slices.Grow and slices.Concat of rows of bytes, walked. -/
import Derived.Test.YtajidlihepjegaaK833
import Derived.Lib.AppendZeros
namespace Go.Proofs.Ytajidlihepjegaa
open Go.RowKit Go.Maps

set_option maxHeartbeats 1000000 in
theorem sgrow_any (n : Nat) (h0 : 0 < n) (hn : n ≤ 10000) (w : World) :
    Calls Try.prog 79 #[.slice none 0 0, .int .i64 (n : Int)] w fun e w' => ∃ v, e = .returned v ∧ w'.ownsRow w.heap.size 5 1 v 0 [] ∧ Below w.heap.size w w' := by
  obtain ⟨i, hi, hz, hs, hb⟩ := info_parts u8_info
  have d0 : decide ((n : Int) < 0) = false := by simp
  have d1 : decide ((n : Int) > 0) = true := by simp; omega
  have hw : IntKind.i64.wrap (n : Int) = (n : Int) := IntWalk.i64_in _ (by omega)
  have hw2 : wrap64 (n : Int) = (n : Int) := wrap64_in _ (by omega)
  have hap := Lib.run_append_nil_zeros (P := Try.prog) w 23 3 23 5 i _ .i64 .i64 Try.underlying23 Try.underlying3 hi hz n h0 (by rw [hs]; decide) (by omega) (by rw [hb]; omega)
  have hcap : n ≤ grownCap w n 0 5 := grownCap_ge w _ _ _
  have hcap2 : grownCap w n 0 5 ≤ maxLen := grownCap_le_maxLen w n 0 _ (by simp only [maxLen]; omega)
  obtain ⟨G, hG⟩ : ∃ G, grownCap w n 0 5 = G := ⟨_, rfl⟩
  rw [hG] at hap hcap hcap2
  obtain ⟨cs, hcs⟩ : ∃ cs, Builtin.zeroCells (Value.int IntKind.u8 0).cells n ++ Builtin.zeroCells (Value.int IntKind.u8 0).cells (G - n) = cs := ⟨_, rfl⟩
  rw [hcs] at hap
  have hsz : cs.size = G := by rw [← hcs]; simp only [Array.size_append, size_zeroCells, show (Value.int IntKind.u8 0).cells.size = 1 from rfl]; omega
  have hown : ((w.drew.alloc (.cells cs 5))).ownsRow w.heap.size 5 1 (.slice (some ⟨w.heap.size, 0, none⟩) 0 G) 0 [] :=
    ⟨rfl, .inr ⟨w.heap.size, G, cs, rfl, Nat.le_refl _, World.alloc_heap_new w.drew _, Nat.zero_le _, hcap2, by omega, by simp⟩⟩
  have hbl : Below w.heap.size w (w.drew.alloc (.cells cs 5)) := Below.thn (Below.drew (Below.refl _ _)) (Below.al1 _ _)
  obtain ⟨w1, hw1⟩ : ∃ w1, w.drew.alloc (.cells cs 5) = w1 := ⟨_, rfl⟩
  rw [hw1] at hap hown hbl
  have Hap := Lib.hid hap
  clear hap hcs hsz hw1 hi hz hs hb hG
  go_enter Try.func79, Try.ntmps79
  go_wp2_with (at_builtin; refine Lib.wpList_append_run _ rfl _ _ _ _ rfl _ _ rfl rfl _ _ Hap.out ?_)
  go_ret
  exact ⟨_, rfl, hown, hbl⟩

/-- Rows one behind the other: how long the first i are, and what they hold. -/
def tot (R : List (Value × List Nat)) (i : Nat) : Nat := ((R.take i).map fun r => r.2.length).sum
def cat (R : List (Value × List Nat)) (i : Nat) : List Nat := (R.take i).flatMap fun r => r.2
theorem tot_succ {R : List (Value × List Nat)} {i : Nat} (h : i < R.length) : tot R (i + 1) = tot R i + R[i].2.length := by
  unfold tot
  rw [List.take_succ_eq_append_getElem h, List.map_append, List.sum_append]
  simp only [List.map_cons, List.map_nil, List.sum_cons, List.sum_nil, Nat.add_zero]
theorem cat_succ {R : List (Value × List Nat)} {i : Nat} (h : i < R.length) : cat R (i + 1) = cat R i ++ R[i].2 := by
  unfold cat
  rw [List.take_succ_eq_append_getElem h, List.flatMap_append]
  simp only [List.flatMap_cons, List.flatMap_nil, List.append_nil]
theorem cat_len (R : List (Value × List Nat)) : ∀ i, i ≤ R.length → (cat R i).length = tot R i
  | 0, _ => rfl
  | i + 1, h => by rw [cat_succ (by omega), tot_succ (by omega), List.length_append, cat_len R i (by omega)]
theorem tot_up (R : List (Value × List Nat)) (i : Nat) : ∀ k, i + k ≤ R.length → tot R i ≤ tot R (i + k)
  | 0, _ => Nat.le_refl _
  | k + 1, h => by
    have h1 := tot_up R i k (by omega)
    have h2 := tot_succ (R := R) (i := i + k) (by omega)
    rw [Nat.add_assoc] at h2
    omega
theorem tot_le (R : List (Value × List Nat)) {i : Nat} (h : i ≤ R.length) : tot R i ≤ tot R R.length := by
  have := tot_up R i (R.length - i) (by omega)
  rw [show i + (R.length - i) = R.length by omega] at this
  exact this

set_option maxRecDepth 20000 in
set_option maxHeartbeats 2000000 in
theorem sconcat_any (g c : Nat) (R : List (Value × List Nat)) (w : World) (hc : ∀ i (h : i < R.length), w.cell? ⟨g, i, none⟩ = some R[i].1 ∧ Rw8 w R[i].1 R[i].2) (h0 : 0 < tot R R.length) (hn : tot R R.length ≤ 10000) (hR : R.length ≤ 1000) :
    Calls Try.prog 66 #[.slice (some ⟨g, 0, none⟩) R.length c] w fun e w' => ∃ v, e = .returned v ∧ w'.ownsRow w.heap.size 5 1 v (tot R R.length) ((cat R R.length).map u8v) ∧ Below w.heap.size w w' := by
  have Hc := Lib.hid hc
  obtain ⟨i0, hi0, hz0, hz1, hz2⟩ := info_parts u8_info
  clear hc
  go_enter Try.func66, Try.ntmps66
  go_wp2_with fail
  go_loopw [3, 11] (fun sv iv wr => ∃ i : Nat, iv = .int .i64 (i : Int) ∧ sv = .int .i64 (tot R i : Int) ∧ i ≤ R.length ∧ wr = w) (fun _ iv _ => R.length - (intOf iv).toNat)
  case atStart => exact ⟨0, rfl, rfl, Nat.zero_le _, rfl⟩
  case round =>
    obtain ⟨i, rfl, rfl, hi, rfl⟩ := hrel
    by_cases hin : i < R.length
    · have d1 : decide ((i : Int) < (R.length : Int)) = true := by simp; omega
      obtain ⟨hcell, hrw⟩ := Hc.out i hin
      obtain ⟨p', c', e', -, -, -⟩ := hrw.cells
      have hts := tot_succ hin
      have hle := tot_le R (i := i + 1) (by omega)
      rw [e'] at hcell
      obtain ⟨q, hq⟩ : ∃ q, R[i].2.length = q := ⟨_, rfl⟩
      rw [hq] at hcell hts
      obtain ⟨t, ht⟩ : ∃ t, tot R i = t := ⟨_, rfl⟩
      rw [ht] at hts ⊢
      have hw : IntKind.i64.wrap ((t : Int) + (q : Int)) = ((t + q : Nat) : Int) := IntWalk.i64_in _ (by omega)
      have d2 : decide (((t + q : Nat) : Int) < 0) = false := by simp only [decide_eq_false_iff_not]; omega
      have d3 : decide ((t : Int) + (q : Int) < 0) = false := by simp only [decide_eq_false_iff_not]; omega
      have j0 : (0 : Int) ≤ (i : Int) := by omega
      have j1 : (i : Int) < (R.length : Int) := by omega
      have Hts := Lib.hid hts
      clear hts hle hrw e' hq ht
      go_wp2
      go_roundw
      case rel => exact ⟨i + 1, by go_num, by rw [Hts.out, Int.natCast_add], by omega, by first | rfl | trivial⟩
      case measure => simp [intOf]; omega
    · obtain rfl : i = R.length := by omega
      have hcat : (cat R 0).map u8v = [] := rfl
      go_wp2_with fail
      refine Calls.mono (sgrow_any (tot R R.length) h0 hn _) ?_
      rintro e w1 ⟨v1, rfl, ho, hb⟩
      have Hb := Lib.hid hb
      have Ho := Lib.hid ho
      obtain ⟨p1, c1, rfl⟩ := owns_slice ho
      clear ho hb
      go_wp2_with fail
      go_loopw [6, 27] (fun nv iv w2 => ∃ i : Nat, iv = .int .i64 (i : Int) ∧ i ≤ R.length ∧ Hid (w2.ownsRow wr.heap.size 5 1 nv (tot R i) ((cat R i).map u8v)) ∧ Hid (Below wr.heap.size wr w2)) (fun _ iv _ => R.length - (intOf iv).toNat)
      case atStart => exact ⟨0, rfl, Nat.zero_le _, Ho, Hb⟩
      case round =>
        obtain ⟨i, rfl, hi, HO, HB⟩ := hrel
        by_cases hin : i < R.length
        · have d1 : decide ((i : Int) < (R.length : Int)) = true := by simp; omega
          obtain ⟨hcell, hrw⟩ := Hc.out i hin
          obtain ⟨p', c', e', hc1, hc2, hsrc⟩ := (hrw.below HB.out).src enc8_len (by decide)
          have hcell := cell_later HB.out hcell
          rw [flat8] at hsrc
          rw [e'] at hcell
          have hts := tot_succ hin
          have hcs := cat_succ hin
          have hle := tot_le R (i := i + 1) (by omega)
          have Hx := Lib.hid (And.intro hts (And.intro hcs hsrc))
          have Hle := Lib.hid (show tot R i + R[i].2.length ≤ 10000 by omega)
          have hbl := HB.out.size
          obtain ⟨p2, c2, rfl⟩ := owns_slice HO.out
          have j0 : (0 : Int) ≤ (i : Int) := by omega
          have j1 : (i : Int) < (R.length : Int) := by omega
          clear hts hcs hle hrw hsrc e'
          go_wp2_with (at_builtin; refine wpList_append_mine wr rfl (.tmp 31) (.tmp 32) 23 rfl _ 5 i0 _ 1 1 Try.underlying23 hi0 hz0 hz1 hz2 rfl (by decide) (.slice p2 (tot R i) c2) (tot R i) ((cat R i).map u8v) rfl HO.out p' R[i].2.length c' (R[i].2.map u8v) rfl (by simp) Hx.out.2.2 (one8 _) ?n3 ?n4 hbl ?_)
          case n3 => have := Hle.out; simp only [maxLen]; omega
          case n4 => have := Hle.out; omega
          intro v2 w2 ho2 hg2 _
          have HO2 := Lib.hid ho2
          have HB2 := Lib.hid (HB.out.trans ((Turns.of_grown (T := fun k => (Value.slice p2 (tot R i) c2).ownBlock = some k) hg2 (fun _ h => h)).below hbl (fun k hk => (HO.out.lt k hk).1)))
          clear ho2 hg2
          go_wp2
          go_roundw
          case rel => exact ⟨i + 1, by go_num, by omega, Lib.hid (by rw [Hx.out.1, Hx.out.2.1, List.map_append]; exact HO2.out), HB2⟩
          case measure => simp [intOf]; omega
        · obtain rfl : i = R.length := by omega
          obtain ⟨p2, c2, rfl⟩ := owns_slice HO.out
          go_wp2
          go_ret
          exact ⟨_, rfl, HO.out, HB.out⟩

end Go.Proofs.Ytajidlihepjegaa
