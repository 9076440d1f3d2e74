/- Several texts in one, each with its own head. -/
import Derived.Test.YtoladolgmeanhaaGreatQc13
import Derived.Lib.AppendZeros
/- inflate: the usual codes: slices.Grow and slices.Concat of rows of bytes, walked. -/
namespace Go.Proofs.YtoladolgmeanhaaGreat
open Go.RowKit Go.Maps

set_option maxHeartbeats 1000000 in
theorem sgrow_any (n : Nat) (h0 : 0 < n) (hn : n ≤ 10000) (w : World) :
    Calls Tryz.prog 134 #[.slice none 0 0, .int .i64 (n : Int)] w fun e w' => ∃ v, e = .returned v ∧ w'.ownsRow w.heap.size 5 1 v 0 [] ∧ Below w.heap.size w w' := by
  obtain ⟨i, hi, hz, hs, hb⟩ := info_parts u8_info
  have d0 : decide ((n : Int) < 0) = false := by simp
  have d1 : decide ((n : Int) > 0) = true := by simp; omega
  have hw : IntKind.i64.wrap (n : Int) = (n : Int) := IntWalk.i64_in _ (by omega)
  have hw2 : wrap64 (n : Int) = (n : Int) := wrap64_in _ (by omega)
  have hap := Lib.run_append_nil_zeros (P := Tryz.prog) w 25 3 25 5 i _ .i64 .i64 Tryz.underlying25 Tryz.underlying3 hi hz n h0 (by rw [hs]; decide) (by omega) (by rw [hb]; omega)
  have hcap : n ≤ grownCap w n 0 5 := grownCap_ge w _ _ _
  have hcap2 : grownCap w n 0 5 ≤ maxLen := grownCap_le_maxLen w n 0 _ (by simp only [maxLen]; omega)
  obtain ⟨G, hG⟩ : ∃ G, grownCap w n 0 5 = G := ⟨_, rfl⟩
  rw [hG] at hap hcap hcap2
  obtain ⟨cs, hcs⟩ : ∃ cs, Builtin.zeroCells (Value.int IntKind.u8 0).cells n ++ Builtin.zeroCells (Value.int IntKind.u8 0).cells (G - n) = cs := ⟨_, rfl⟩
  rw [hcs] at hap
  have hsz : cs.size = G := by rw [← hcs]; simp only [Array.size_append, size_zeroCells, show (Value.int IntKind.u8 0).cells.size = 1 from rfl]; omega
  have hown : ((w.drew.alloc (.cells cs 5))).ownsRow w.heap.size 5 1 (.slice (some ⟨w.heap.size, 0, none⟩) 0 G) 0 [] :=
    ⟨rfl, .inr ⟨w.heap.size, G, cs, rfl, Nat.le_refl _, World.alloc_heap_new w.drew _, Nat.zero_le _, hcap2, by omega, by simp⟩⟩
  have hbl : Below w.heap.size w (w.drew.alloc (.cells cs 5)) := Below.thn (Below.drew (Below.refl _ _)) (Below.al1 _ _)
  obtain ⟨w1, hw1⟩ : ∃ w1, w.drew.alloc (.cells cs 5) = w1 := ⟨_, rfl⟩
  rw [hw1] at hap hown hbl
  have Hap := Lib.hid hap
  clear hap hcs hsz hw1 hi hz hs hb hG
  go_enter Tryz.func134, Tryz.ntmps134
  go_wp2_with (at_builtin; refine Lib.wpList_append_run _ rfl _ _ _ _ rfl _ _ rfl rfl _ _ Hap.out ?_)
  go_ret
  exact ⟨_, rfl, hown, hbl⟩
def tot (R : List (Value × List Nat)) (i : Nat) : Nat := ((R.take i).map fun r => r.2.length).sum
def cat (R : List (Value × List Nat)) (i : Nat) : List Nat := (R.take i).flatMap fun r => r.2
theorem tot_succ {R : List (Value × List Nat)} {i : Nat} (h : i < R.length) : tot R (i + 1) = tot R i + R[i].2.length := by
  unfold tot
  rw [List.take_succ_eq_append_getElem h, List.map_append, List.sum_append]
  simp only [List.map_cons, List.map_nil, List.sum_cons, List.sum_nil, Nat.add_zero]
theorem cat_succ {R : List (Value × List Nat)} {i : Nat} (h : i < R.length) : cat R (i + 1) = cat R i ++ R[i].2 := by
  unfold cat
  rw [List.take_succ_eq_append_getElem h, List.flatMap_append]
  simp only [List.flatMap_cons, List.flatMap_nil, List.append_nil]
theorem tot_up (R : List (Value × List Nat)) (i : Nat) : ∀ k, i + k ≤ R.length → tot R i ≤ tot R (i + k)
  | 0, _ => Nat.le_refl _
  | k + 1, h => by
    have h1 := tot_up R i k (by omega)
    have h2 := tot_succ (R := R) (i := i + k) (by omega)
    rw [Nat.add_assoc] at h2
    omega
theorem tot_le (R : List (Value × List Nat)) {i : Nat} (h : i ≤ R.length) : tot R i ≤ tot R R.length := by
  have := tot_up R i (R.length - i) (by omega)
  rw [show i + (R.length - i) = R.length by omega] at this
  exact this
set_option maxRecDepth 20000 in
set_option maxHeartbeats 2000000 in
theorem sconcat_any (g c : Nat) (R : List (Value × List Nat)) (w : World) (hc : ∀ i (h : i < R.length), w.cell? ⟨g, i, none⟩ = some R[i].1 ∧ Rw8 w R[i].1 R[i].2) (h0 : 0 < tot R R.length) (hn : tot R R.length ≤ 10000) (hR : R.length ≤ 1000) :
    Calls Tryz.prog 112 #[.slice (some ⟨g, 0, none⟩) R.length c] w fun e w' => ∃ v, e = .returned v ∧ w'.ownsRow w.heap.size 5 1 v (tot R R.length) ((cat R R.length).map u8v) ∧ Below w.heap.size w w' := by
  have Hc := Lib.hid hc
  obtain ⟨i0, hi0, hz0, hz1, hz2⟩ := info_parts u8_info
  clear hc
  go_enter Tryz.func112, Tryz.ntmps112
  go_wp2_with fail
  go_loopw [3, 11] (fun sv iv wr => ∃ i : Nat, iv = .int .i64 (i : Int) ∧ sv = .int .i64 (tot R i : Int) ∧ i ≤ R.length ∧ wr = w) (fun _ iv _ => R.length - (intOf iv).toNat)
  case atStart => exact ⟨0, rfl, rfl, Nat.zero_le _, rfl⟩
  case round =>
    obtain ⟨i, rfl, rfl, hi, rfl⟩ := hrel
    by_cases hin : i < R.length
    · have d1 : decide ((i : Int) < (R.length : Int)) = true := by simp; omega
      obtain ⟨hcell, hrw⟩ := Hc.out i hin
      obtain ⟨p', c', e', -, -, -⟩ := hrw.cells
      have hts := tot_succ hin
      have hle := tot_le R (i := i + 1) (by omega)
      rw [e'] at hcell
      obtain ⟨q, hq⟩ : ∃ q, R[i].2.length = q := ⟨_, rfl⟩
      rw [hq] at hcell hts
      obtain ⟨t, ht⟩ : ∃ t, tot R i = t := ⟨_, rfl⟩
      rw [ht] at hts ⊢
      have hw : IntKind.i64.wrap ((t : Int) + (q : Int)) = ((t + q : Nat) : Int) := IntWalk.i64_in _ (by omega)
      have d2 : decide (((t + q : Nat) : Int) < 0) = false := by simp only [decide_eq_false_iff_not]; omega
      have d3 : decide ((t : Int) + (q : Int) < 0) = false := by simp only [decide_eq_false_iff_not]; omega
      have j0 : (0 : Int) ≤ (i : Int) := by omega
      have j1 : (i : Int) < (R.length : Int) := by omega
      have Hts := Lib.hid hts
      clear hts hle hrw e' hq ht
      go_wp2
      go_roundw
      case rel => exact ⟨i + 1, by go_num, by rw [Hts.out, Int.natCast_add], by omega, by first | rfl | trivial⟩
      case measure => simp [intOf]; omega
    · obtain rfl : i = R.length := by omega
      have hcat : (cat R 0).map u8v = [] := rfl
      go_wp2_with fail
      refine Calls.mono (sgrow_any (tot R R.length) h0 hn _) ?_
      rintro e w1 ⟨v1, rfl, ho, hb⟩
      have Hb := Lib.hid hb
      have Ho := Lib.hid ho
      obtain ⟨p1, c1, rfl⟩ := owns_slice ho
      clear ho hb
      go_wp2_with fail
      go_loopw [6, 27] (fun nv iv w2 => ∃ i : Nat, iv = .int .i64 (i : Int) ∧ i ≤ R.length ∧ Hid (w2.ownsRow wr.heap.size 5 1 nv (tot R i) ((cat R i).map u8v)) ∧ Hid (Below wr.heap.size wr w2)) (fun _ iv _ => R.length - (intOf iv).toNat)
      case atStart => exact ⟨0, rfl, Nat.zero_le _, Ho, Hb⟩
      case round =>
        obtain ⟨i, rfl, hi, HO, HB⟩ := hrel
        by_cases hin : i < R.length
        · have d1 : decide ((i : Int) < (R.length : Int)) = true := by simp; omega
          obtain ⟨hcell, hrw⟩ := Hc.out i hin
          obtain ⟨p', c', e', hc1, hc2, hsrc⟩ := (hrw.below HB.out).src enc8_len (by decide)
          have hcell := cell_later HB.out hcell
          rw [flat8] at hsrc
          rw [e'] at hcell
          have hts := tot_succ hin
          have hcs := cat_succ hin
          have hle := tot_le R (i := i + 1) (by omega)
          have Hx := Lib.hid (And.intro hts (And.intro hcs hsrc))
          have Hle := Lib.hid (show tot R i + R[i].2.length ≤ 10000 by omega)
          have hbl := HB.out.size
          obtain ⟨p2, c2, rfl⟩ := owns_slice HO.out
          have j0 : (0 : Int) ≤ (i : Int) := by omega
          have j1 : (i : Int) < (R.length : Int) := by omega
          clear hts hcs hle hrw hsrc e'
          go_wp2_with (at_builtin; refine wpList_append_mine wr rfl (.tmp 31) (.tmp 32) 25 rfl _ 5 i0 _ 1 1 Tryz.underlying25 hi0 hz0 hz1 hz2 rfl (by decide) (.slice p2 (tot R i) c2) (tot R i) ((cat R i).map u8v) rfl HO.out p' R[i].2.length c' (R[i].2.map u8v) rfl (by simp) Hx.out.2.2 (one8 _) ?n3 ?n4 hbl ?_)
          case n3 => have := Hle.out; simp only [maxLen]; omega
          case n4 => have := Hle.out; omega
          intro v2 w2 ho2 hg2 _
          have HO2 := Lib.hid ho2
          have HB2 := Lib.hid (HB.out.trans ((Turns.of_grown (T := fun k => (Value.slice p2 (tot R i) c2).ownBlock = some k) hg2 (fun _ h => h)).below hbl (fun k hk => (HO.out.lt k hk).1)))
          clear ho2 hg2
          go_wp2
          go_roundw
          case rel => exact ⟨i + 1, by go_num, by omega, Lib.hid (by rw [Hx.out.1, Hx.out.2.1, List.map_append]; exact HO2.out), HB2⟩
          case measure => simp [intOf]; omega
        · obtain rfl : i = R.length := by omega
          obtain ⟨p2, c2, rfl⟩ := owns_slice HO.out
          go_wp2
          go_ret
          exact ⟨_, rfl, HO.out, HB.out⟩
end Go.Proofs.YtoladolgmeanhaaGreat

/- inflate: usualCodes, fixed. -/
namespace Go.Proofs.YtoladolgmeanhaaGreat
open Go.RowKit Go.Maps

theorem fixA_chk : chk fixA = 0 := by decide +kernel
theorem fixD_chk : chk fixD = 0 := by decide +kernel
theorem fixA_len : fixA.length = 288 := by decide +kernel
theorem rep_row (x n : Nat) : List.replicate n (u8v x) = (List.replicate n x).map u8v := by rw [List.map_replicate]
theorem four_cells {w : World} {a b c d : Value} {t : TypeId} : ∀ i v, [a, b, c, d][i]? = some v → (w.alloc (.cells #[a, b, c, d] t)).cell? ⟨w.heap.size, i, none⟩ = some v := fun i v h => by
  have hb := World.alloc_heap_new w (.cells #[a, b, c, d] t)
  simp only [World.cell?, hb]
  have : (#[a, b, c, d] : Array Value)[i]? = some v := by rw [← h]; simp
  rw [this]; rfl
theorem concat_four {w4 : World} {v1 v2 v3 v4 : Value} (H1 : Rw8 w4 v1 (List.replicate 144 8)) (H2 : Rw8 w4 v2 (List.replicate 112 9)) (H3 : Rw8 w4 v3 (List.replicate 24 7)) (H4 : Rw8 w4 v4 (List.replicate 8 8)) :
    Calls Tryz.prog 112 #[.slice (some ⟨w4.heap.size, 0, none⟩) 4 4] (w4.alloc (.cells #[v1, v2, v3, v4] 25)) fun e w' => ∃ v, e = .returned v ∧ Rw8 w' v fixA ∧ Below w4.heap.size w4 w' := by
  obtain ⟨r1, h1⟩ : ∃ r, List.replicate 144 8 = r := ⟨_, rfl⟩
  obtain ⟨r2, h2⟩ : ∃ r, List.replicate 112 9 = r := ⟨_, rfl⟩
  obtain ⟨r3, h3⟩ : ∃ r, List.replicate 24 7 = r := ⟨_, rfl⟩
  obtain ⟨r4, h4⟩ : ∃ r, List.replicate 8 8 = r := ⟨_, rfl⟩
  have hfix : fixA = r1 ++ (r2 ++ (r3 ++ r4)) := by unfold fixA; rw [h1, h2, h3, h4, List.append_assoc, List.append_assoc]
  have l1 : r1.length = 144 := by rw [← h1, List.length_replicate]
  have l2 : r2.length = 112 := by rw [← h2, List.length_replicate]
  have l3 : r3.length = 24 := by rw [← h3, List.length_replicate]
  have l4 : r4.length = 8 := by rw [← h4, List.length_replicate]
  rw [h1] at H1; rw [h2] at H2; rw [h3] at H3; rw [h4] at H4
  clear h1 h2 h3 h4
  obtain ⟨R, hR⟩ : ∃ R, R = [(v1, r1), (v2, r2), (v3, r3), (v4, r4)] := ⟨_, rfl⟩
  have hlen : R.length = 4 := by rw [hR]; rfl
  have htot : tot R 4 = 288 := by rw [hR]; simp [tot, l1, l2, l3, l4]
  have hcat : cat R 4 = fixA := by rw [hR, hfix]; simp [cat]
  have hcells := four_cells (w := w4) (a := v1) (b := v2) (c := v3) (d := v4) (t := 25)
  have hb := Below.al1 w4 (.cells #[v1, v2, v3, v4] 25)
  have hcc := sconcat_any w4.heap.size 4 R (w4.alloc (.cells #[v1, v2, v3, v4] 25)) (fun i hi => by
    subst hR
    have hi : i < 4 := hi
    have : i = 0 ∨ i = 1 ∨ i = 2 ∨ i = 3 := by omega
    rcases this with rfl | rfl | rfl | rfl
    · exact ⟨hcells 0 _ rfl, H1.below hb⟩
    · exact ⟨hcells 1 _ rfl, H2.below hb⟩
    · exact ⟨hcells 2 _ rfl, H3.below hb⟩
    · exact ⟨hcells 3 _ rfl, H4.below hb⟩) (by rw [hlen, htot]; decide) (by rw [hlen, htot]; decide) (by omega)
  rw [hlen, htot, hcat] at hcc
  refine Calls.mono hcc ?_
  rintro e w' ⟨v, rfl, ho, hb2⟩
  exact ⟨v, rfl, Rw8.own (owns_lower ho hb.size) fixA_len.symm, Below.thn hb hb2⟩
set_option maxRecDepth 20000 in
set_option maxHeartbeats 2000000 in
theorem iusual_any (w : World) :
    Calls Tryz.prog 160 #[] w fun e w' => ∃ cv, e = .returned cv ∧ Codn w' (fun i => i < w.heap.size) cv fixA fixD ∧ Below w.heap.size w w' := by
  go_enter Tryz.func160, Tryz.ntmps160
  go_wp2_with fail
  refine Calls.mono (irun_any 8 144 (by decide) (by decide) (by decide) _) ?_
  rintro e w1 ⟨v1, rfl, ho, hb⟩
  rw [rep_row] at ho
  obtain ⟨q1, k1, rfl⟩ := owns_slice ho
  have H1 := Lib.hid (Rw8.own ho (by simp))
  have Hb1 := Lib.hid hb
  clear ho hb
  go_wp2_with fail
  refine Calls.mono (irun_any 9 112 (by decide) (by decide) (by decide) _) ?_
  rintro e w2 ⟨v2, rfl, ho, hb⟩
  rw [rep_row] at ho
  obtain ⟨q2, k2, rfl⟩ := owns_slice ho
  have H2 := Lib.hid (Rw8.own ho (by simp))
  have H1 := Lib.hid (H1.out.below hb)
  have Hb2 := Lib.hid (Below.thn Hb1.out hb)
  clear ho hb Hb1
  go_wp2_with fail
  refine Calls.mono (irun_any 7 24 (by decide) (by decide) (by decide) _) ?_
  rintro e w3 ⟨v3, rfl, ho, hb⟩
  rw [rep_row] at ho
  obtain ⟨q3, k3, rfl⟩ := owns_slice ho
  have H3 := Lib.hid (Rw8.own ho (by simp))
  have H1 := Lib.hid (H1.out.below hb)
  have H2 := Lib.hid (H2.out.below hb)
  have Hb3 := Lib.hid (Below.thn Hb2.out hb)
  clear ho hb Hb2
  go_wp2_with fail
  refine Calls.mono (irun_any 8 8 (by decide) (by decide) (by decide) _) ?_
  rintro e w4 ⟨v4, rfl, ho, hb⟩
  rw [rep_row] at ho
  obtain ⟨q4, k4, rfl⟩ := owns_slice ho
  have H4 := Lib.hid (Rw8.own ho (by simp))
  have H1 := Lib.hid (H1.out.below hb)
  have H2 := Lib.hid (H2.out.below hb)
  have H3 := Lib.hid (H3.out.below hb)
  have Hb4 := Lib.hid (Below.thn Hb3.out hb)
  clear ho hb Hb3
  go_wp2_with fail
  refine Calls.mono (concat_four H1.out H2.out H3.out H4.out) ?_
  rintro e w5 ⟨v5, rfl, hR, hb⟩
  have H5 := Lib.hid hR.row
  have Hb5 := Lib.hid (Below.thn Hb4.out hb)
  clear hb hR H1 H2 H3 H4 Hb4
  go_wp2_with fail
  refine Calls.mono (itable_ok fixA v5 w5 H5.out fixA_chk) ?_
  rintro e w6 ⟨ta, rfl, ht, hb⟩
  have Hta := Lib.hid ht
  have Hb6 := Lib.hid (Below.thn Hb5.out hb)
  have Hs5 := Lib.hid Hb5.out.size
  obtain ⟨T1, M1, n1, L1, F1, rfl, -⟩ := ht
  clear hb H5 Hb5
  go_wp2_with fail
  refine Calls.mono (irun_any 5 32 (by decide) (by decide) (by decide) _) ?_
  rintro e w7 ⟨v7, rfl, ho, hb⟩
  rw [rep_row] at ho
  have H7 := Lib.hid (Rw8.own ho (by simp)).row
  have Hta := Lib.hid (Hta.out.go (K' := fun i => i < w5.heap.size) (Turns.of_below' hb) (fun _ _ h => h))
  have Hb7 := Lib.hid (Below.thn Hb6.out hb)
  clear ho hb Hb6
  go_wp2_with fail
  refine Calls.mono (itable_ok fixD v7 w7 H7.out fixD_chk) ?_
  rintro e w8 ⟨td, rfl, ht, hb⟩
  have Htd := Lib.hid ht
  have Hta := Lib.hid (Hta.out.go (K' := fun i => i < w5.heap.size) (Turns.of_below' hb) (fun _ _ h => h))
  have Hb8 := Lib.hid (Below.thn Hb7.out hb)
  have Hs7 := Lib.hid Hb7.out.size
  obtain ⟨T2, M2, n2, L2, F2, rfl, -⟩ := ht
  clear hb H7 Hb7
  go_wp2
  go_ret
  have hb9 := Below.al1 w8 (.cells #[.pointer (some ⟨T1, 0, none⟩), .pointer (some ⟨T2, 0, none⟩)] 235)
  exact ⟨_, rfl, ⟨w8.heap.size, _, _, rfl, World.alloc_heap_new _ _, fun h => by have := Hb8.out.size; omega, Hta.out.go (Turns.of_below' hb9) (fun i _ h => Nat.lt_of_lt_of_le h Hs5.out), Htd.out.go (Turns.of_below' hb9) (fun i _ h => Nat.lt_of_lt_of_le h Hs7.out)⟩, Below.thn Hb8.out hb9⟩
section
variable {base S B : Nat} {sv ov uv : Value} {l : List Nat} {lim a : Nat} {o : List Nat}

def EndsU (base S B : Nat) (sv ov : Value) (l : List Nat) (lim : Nat) (w : World) (R : InfSt → Prop) (e : Ending) (w' : World) : Prop :=
  (∃ (a' : Nat) (o' : List Nat) (ov' uv' : Value), R (.go a' o') ∧ e = .returned (.tuple #[]) ∧ Sm w' base S B sv ov' uv' l lim a' o' ∧ Fr S B ov w ov' w') ∨ (∃ er, R (.no er) ∧ e = thrown er ∧ Turns (KS S B ov) w w')
theorem Ends.u {w : World} {R : InfSt → Prop} {e : Ending} {w' : World} (h : Ends base S B sv ov uv l lim w R e w') : EndsU base S B sv ov l lim w R e w' := by
  rcases h with ⟨a', o', ov', h⟩ | h
  · exact .inl ⟨a', o', ov', uv, h⟩
  · exact .inr h
theorem EndsU.from {ov1 : Value} {w w1 : World} {R : InfSt → Prop} {e : Ending} {w' : World} (h : EndsU base S B sv ov1 l lim w1 R e w') (hf : Fr S B ov w ov1 w1) : EndsU base S B sv ov l lim w R e w' := by
  rcases h with ⟨a', o', ov', uv', h1, h2, h3, h4⟩ | ⟨er, h1, h2, h3⟩
  · exact .inl ⟨a', o', ov', uv', h1, h2, h3, hf.trans h4⟩
  · exact .inr ⟨er, h1, h2, hf.throws h3⟩
theorem EndsU.of {w : World} {R R' : InfSt → Prop} {e : Ending} {w' : World} (h : EndsU base S B sv ov l lim w R e w') (hR : ∀ r, R r → R' r) : EndsU base S B sv ov l lim w R' e w' := by
  rcases h with ⟨a', o', ov', uv', h1, h2, h3, h4⟩ | ⟨er, h1, h2, h3⟩
  · exact .inl ⟨a', o', ov', uv', hR _ h1, h2, h3, h4⟩
  · exact .inr ⟨er, hR _ h1, h2, h3⟩
theorem Sm.keeps {w : World} {cv : Value} (h : Sm w base S B sv ov uv l lim a o) (hc : Codn w (KS S B ov) cv fixA fixD) : Sm (w.setCell ⟨S, 3, none⟩ cv) base S B sv ov cv l lim a o ∧ Fr S B ov w ov (w.setCell ⟨S, 3, none⟩ cv) := by
  obtain ⟨n1, n2, n3, n4, n5⟩ := h.ne
  have ht : Turns (fun i => i = S) w (w.setCell ⟨S, 3, none⟩ cv) := Turns.set (T := fun i => i = S) (p := ⟨S, 3, none⟩) (Turns.refl _ w) rfl _
  have hf : Fr S B ov w ov (w.setCell ⟨S, 3, none⟩ cv) := ⟨ht.mono (fun i _ e => .inl e), fun _ h => .inl h⟩
  exact ⟨⟨four_set3 _ h.box, h.rd.turns ht (fun e => n1 e.symm) (fun k hk e => n2 (by rw [hk, e])), ht.owns h.out (fun k hk e => n3 (by rw [hk, e])), .inr (hf.codn hc), h.ne, h.lo, h.le, h.by'⟩, hf⟩
set_option maxRecDepth 20000 in
set_option maxHeartbeats 2000000 in
theorem ifixed_any (w : World) (h : Sm w base S B sv ov uv l lim a o) :
    Calls Tryz.prog 149 #[.pointer (some ⟨S, 0, none⟩)] w (EndsU base S B sv ov l lim w (InfToks fixA fixD l lim a o)) := by
  have c3 := h.c3
  have H := Lib.hid h
  have hA : fixA.length ≤ 320 ∧ fixD.length ≤ 320 := by rw [fixA_len]; decide
  rcases h.us with rfl | hc
  · clear h
    go_enter Tryz.func149, Tryz.ntmps149
    go_wp2_with fail
    refine Calls.mono (iusual_any w) ?_
    rintro e w1 ⟨cv, rfl, hc, hb⟩
    have H1 := Lib.hid (H.out.below hb)
    have hk : ∀ i, i < w1.heap.size → KS S B ov i → i < w.heap.size := fun i _ hi => by
      rcases hi with rfl | rfl | hi
      · exact H.out.size
      · exact H.out.rd.size
      · exact (H.out.out.lt _ hi).2
    have Hc := Lib.hid (hc.go (K' := KS S B ov) (Turns.refl _ _) hk)
    have Hk := Lib.hid (H1.out.1.keeps Hc.out)
    have f3 := H1.out.1.free 3
    have d3 := H1.out.1.c3
    obtain ⟨C, ta, td, rfl, -⟩ := hc
    obtain ⟨w2, hw2⟩ : ∃ w2, w1.setCell ⟨S, 3, none⟩ (.pointer (some ⟨C, 0, none⟩)) = w2 := ⟨_, rfl⟩
    rw [hw2] at Hk
    have e3 := Hk.out.1.c3
    have Hw2 := Lib.hid hw2
    clear hb hk c3 hw2
    go_upto_region 2 with (fail)
    rw [Hw2.out]
    clear f3 d3
    go_wp2_with fail
    refine Calls.mono (itok_any _ fixA fixD w2 Hk.out.1 (Hk.out.2.codn Hc.out) hA) ?_
    intro e w3 he
    have he := he.u.from (H1.out.2.trans Hk.out.2)
    have He := Lib.hid he
    rcases he with ⟨a', o', ov', uv', -, rfl, -⟩ | ⟨er, -, rfl, -⟩
    · go_wp2
      go_end0
      exact He.out
    · go_wp2
      exact ⟨rfl, He.out⟩
  · have Hc := Lib.hid hc
    obtain ⟨C, ta, td, rfl, -⟩ := hc
    clear h
    go_enter Tryz.func149, Tryz.ntmps149
    go_wp2_with fail
    refine Calls.mono (itok_any _ fixA fixD w H.out Hc.out hA) ?_
    intro e w1 he
    have he := he.u
    have He := Lib.hid he
    rcases he with ⟨a', o', ov', uv', -, rfl, -⟩ | ⟨er, -, rfl, -⟩
    · go_wp2
      go_end0
      exact He.out
    · go_wp2
      exact ⟨rfl, He.out⟩
end

end Go.Proofs.YtoladolgmeanhaaGreat

/- inflate: several: one more length that is told, and how many times. -/
namespace Go.Proofs.YtoladolgmeanhaaGreat
open Go.RowKit Go.Maps

abbrev SvC (x k c v : Nat) (ls : List Nat) : Prop :=
  x = 16 ∧ 0 < ls.length ∧ k = 2 ∧ c = 3 ∧ v = ls.getD (ls.length - 1) 0 ∨ x = 17 ∧ k = 3 ∧ c = 3 ∧ v = 0 ∨ x = 18 ∧ k = 7 ∧ c = 11 ∧ v = 0 ∨ x < 16 ∧ k = 0 ∧ c = 1 ∧ v = x
theorem getD_last {ls : List Nat} {j : Nat} (h : ls.length = j + 1) : ls[j]'(by omega) = ls.getD (ls.length - 1) 0 := by
  have e : ls.length - 1 = j := by omega
  rw [e, List.getD_eq_getElem?_getD, List.getElem?_eq_getElem (by omega)]
  rfl
section
variable {base S B : Nat} {sv ov uv : Value} {l : List Nat} {lim a : Nat} {o : List Nat}

def SevEnds (base S B : Nat) (sv ov uv : Value) (l : List Nat) (lim a : Nat) (o C ls : List Nat) (w : World) (e : Ending) (w' : World) : Prop :=
  (∃ (x s k c v : Nat), Sy C l a x 0 s ∧ SvC x k c v ls ∧ a + s + k ≤ 8 * l.length ∧ e = .returned (.tuple #[.int .u8 (v : Int), .int .i64 ((c + nb l (a + s) k : Nat) : Int)]) ∧ Sm w' base S B sv ov uv l lim (a + s + k) o ∧ Fr S B ov w ov w') ∨
  (∃ er, (∀ n, InfSv C l n a ls (.no er)) ∧ e = thrown er ∧ Turns (KS S B ov) w w')
set_option maxRecDepth 20000 in
set_option maxHeartbeats 4000000 in
theorem isev_any (tv av : Value) (C ls : List Nat) (w : World) (h : Sm w base S B sv ov uv l lim a o) (ht : TblV w (KS S B ov) tv C) (hC : C.length = 19) (ha : Rw8 w av ls) (hap : ∀ k, av.ownBlock = some k → ¬ KS S B ov k) (hls : ls.length ≤ 1000) :
    Calls Tryz.prog 182 #[.pointer (some ⟨S, 0, none⟩), tv, av] w (SevEnds base S B sv ov uv l lim a o C ls w) := by
  have H := Lib.hid h
  have Ht := Lib.hid ht
  have Ha := Lib.hid ha
  have Hap := Lib.hid hap
  obtain ⟨p, c, rfl, hlc, -, hac⟩ := ha.cells
  have Hac := Lib.hid hac
  obtain ⟨T, M, n, L, F, rfl, -⟩ := ht
  clear h ha hap hac
  go_enter Tryz.func182, Tryz.ntmps182
  go_wp2_with fail
  refine Calls.mono (isym_any _ C w H.out Ht.out) ?_
  rintro e w1 ⟨x, er, s, hsy, (⟨rfl, rfl, hs⟩ | ⟨her, rfl, hs⟩)⟩
  case inr =>
    have Hs := Lib.hid hs
    have Hsy := Lib.hid hsy
    clear hs hsy
    go_wp2
    exact ⟨rfl, .inr ⟨er, fun _ => .bad x s er Hsy.out her, rfl, Hs.out⟩⟩
  have hpos := hsy.pos
  have Hsy := Lib.hid hsy
  have H1 := Lib.hid hs
  have Ha1 := Lib.hid (Ha.out.turns hs.2.turns (fun k hk e => Hap.out k hk e))
  clear hs hsy Ht H Ha
  by_cases h16 : x = 16
  · subst h16
    by_cases hn : ls.length = 0
    · have d0 : (((ls.length : Nat) : Int) == 0) = true := by rw [beq_iff_eq]; omega
      go_wp2
      exact ⟨rfl, .inr ⟨80, fun _ => .first s Hsy.out hn, rfl, H1.out.2.turns⟩⟩
    have d0 : (((ls.length : Nat) : Int) == 0) = false := by rw [beq_eq_false_iff_ne]; omega
    have hd := Below.drew (Below.refl w1.heap.size w1)
    obtain ⟨p', c', e', -, -, hac'⟩ := Rw8.cells Ha1.out
    cases e'
    obtain ⟨j, hj⟩ : ∃ j, ls.length = j + 1 := ⟨ls.length - 1, by omega⟩
    obtain ⟨g, off, rfl, hg⟩ := hac' j (by omega)
    have hv : ls[j]'(by omega) = ls.getD (ls.length - 1) 0 := getD_last hj
    rw [hv] at hg
    obtain ⟨v, hv2⟩ : ∃ v, ls.getD (ls.length - 1) 0 = v := ⟨_, rfl⟩
    rw [hv2] at hg
    have Hv := Lib.hid hv2
    have hw1 : IntKind.i64.wrap (((ls.length : Nat) : Int) - 1) = (j : Int) := by rw [IntWalk.i64_in _ (by omega)]; omega
    have j0 : (0 : Int) ≤ (j : Int) := by omega
    have j1 : (j : Int) < ((ls.length : Nat) : Int) := by omega
    have hgk : ¬ KS S B ov g := Hap.out g rfl
    have Hj := Lib.hid hj
    clear hv hv2 hac' hj
    by_cases hfit : a + s + 2 ≤ 8 * l.length
    · obtain ⟨z, hz⟩ : ∃ z, nb l (a + s) 2 = z := ⟨_, rfl⟩
      have hz4 : z < 4 := by rw [← hz]; exact nb_lt _ _ _
      have Hz := Lib.hid hz
      have hw2 : IntKind.i64.wrap (3 + (z : Int)) = ((3 + z : Nat) : Int) := by rw [IntWalk.i64_in _ (by omega)]; omega
      clear hz
      go_upto_region 7 with (fail)
      go_region_with (go_at_call 152; refine (inum_ok 2 (by decide) _ H1.out.1.drew.1 hfit).mono ?_; rintro e w2 ⟨rfl, hs⟩; rw [Hz.out]; have hg2 := (H1.out.1.drew.2.trans hs.2).turns.cell hg hgk; have Hs := Lib.hid hs; clear hs)
      all_goals go_wp2
      all_goals go_ret2
      all_goals exact .inl ⟨16, s, 2, 3, v, Hsy.out, .inl ⟨rfl, by omega, rfl, rfl, Hv.out.symm⟩, hfit, by rw [Hz.out]; rfl, Hs.out.1, H1.out.2.trans (H1.out.1.drew.2.trans Hs.out.2)⟩
    · go_upto_region 7 with (fail)
      refine wp_region_any (by kernel_rfl) ?_
      change wpAny _ _ _ _ _ _ _ (World.drew _)
      refine wpAny_take (i := 0) (v := ?_) rfl (by kernel_rfl) (by kernel_rfl) (by kernel_rfl) (fun _ _ _ h => h) (Or.inl ⟨by rfl, ?hy⟩) ?_
      case hy => (intro w'; go_simp; try with_reducible rfl)
      refine wpAny_take (i := 1) (v := ?_) rfl (by kernel_rfl) (by kernel_rfl) (by kernel_rfl) (fun _ _ _ h => h) (Or.inl ⟨by rfl, ?hy⟩) ?_
      case hy => (intro w'; go_simp; try with_reducible rfl)
      refine wpAny_take (i := 2) (v := ?_) rfl (by kernel_rfl) (by kernel_rfl) (by kernel_rfl) (fun _ _ _ h => h) (Or.inl ⟨by rfl, ?hy⟩) ?_
      case hy => (intro w'; go_simp; try with_reducible rfl)
      refine wpAny_take (i := 3) (v := ?_) rfl (by kernel_rfl) (by kernel_rfl) (by kernel_rfl) (fun _ _ _ h => h) (Or.inl ⟨by rfl, ?hy⟩) ?_
      case hy => (intro w'; go_simp; try with_reducible rfl)
      refine wpAny_take (i := 4) (v := ?_) rfl (by kernel_rfl) (by kernel_rfl) (by kernel_rfl) (fun _ _ _ h => h) (Or.inl ⟨by rfl, ?hy⟩) ?_
      case hy => (intro w'; go_simp; try with_reducible rfl)
      refine wpAny_take (i := 6) (v := ?_) rfl (by kernel_rfl) (by kernel_rfl) (by kernel_rfl) (fun _ _ _ h => h) (Or.inl ⟨by rfl, ?hy⟩) ?_
      case hy => (intro w'; go_simp; try with_reducible rfl)
      refine wpAny_ready (rs := [5, 7]) (by kernel_rfl) (by simp) ?_
      refine AllReady.cons rfl (fun K hK => ?_) (AllReady.cons rfl (fun K hK => ?_) AllReady.nil)
      · go_simp
        refine hK _ _ ?_
        clear hK K
        refine wpAny_ready (rs := [7]) (by kernel_rfl) (by simp) ?_
        refine AllReady.cons rfl (fun K hK => ?_) AllReady.nil
        go_simp
        refine (inum_few 2 (by decide) _ H1.out.1.drew.1 (by omega)).mono ?_
        rintro e w2 ⟨rfl, hs⟩
        exact ⟨rfl, .inr ⟨50, fun _ => .few 16 s 2 3 v Hsy.out (.inl ⟨rfl, by omega, rfl, rfl, Hv.out.symm⟩) (by omega), rfl, H1.out.2.throws (H1.out.1.drew.2.throws hs)⟩⟩
      · go_simp
        refine (inum_few 2 (by decide) _ H1.out.1.drew.1 (by omega)).mono ?_
        rintro e w2 ⟨rfl, hs⟩
        exact ⟨rfl, .inr ⟨50, fun _ => .few 16 s 2 3 v Hsy.out (.inl ⟨rfl, by omega, rfl, rfl, Hv.out.symm⟩) (by omega), rfl, H1.out.2.throws (H1.out.1.drew.2.throws hs)⟩⟩
  have d16 : ((x : Int) == 16) = false := by rw [beq_eq_false_iff_ne]; omega
  by_cases h17 : x = 17
  · subst h17
    go_wp2_with fail
    refine Calls.mono (inum_any 3 (by decide) w1 H1.out.1) ?_
    have hz128 : nb l (a + s) 3 < 128 := Nat.lt_of_lt_of_le (nb_lt _ _ _) (by decide)
    obtain ⟨z, hz⟩ : ∃ z, nb l (a + s) 3 = z := ⟨_, rfl⟩
    rw [hz] at hz128 ⊢
    have Hz := Lib.hid hz
    have hw2 : IntKind.i64.wrap (3 + (z : Int)) = ((3 + z : Nat) : Int) := by rw [IntWalk.i64_in _ (by omega)]; omega
    clear hz
    rintro e w2 (⟨h1, rfl, hs⟩ | ⟨h1, rfl, hs⟩)
    · have Hs := Lib.hid hs
      clear hs
      go_wp2
      go_ret2
      exact .inl ⟨17, s, 3, 3, 0, Hsy.out, .inr (.inl ⟨rfl, rfl, rfl, rfl⟩), h1, by rw [Hz.out]; rfl, Hs.out.1, H1.out.2.trans Hs.out.2⟩
    · have Hs := Lib.hid hs
      clear hs
      go_wp2
      exact ⟨rfl, .inr ⟨50, fun _ => .few 17 s 3 3 0 Hsy.out (.inr (.inl ⟨rfl, rfl, rfl, rfl⟩)) h1, rfl, H1.out.2.throws Hs.out⟩⟩
  have d17 : ((x : Int) == 17) = false := by rw [beq_eq_false_iff_ne]; omega
  by_cases h18 : x = 18
  · subst h18
    go_wp2_with fail
    refine Calls.mono (inum_any 7 (by decide) w1 H1.out.1) ?_
    have hz128 : nb l (a + s) 7 < 128 := Nat.lt_of_lt_of_le (nb_lt _ _ _) (by decide)
    obtain ⟨z, hz⟩ : ∃ z, nb l (a + s) 7 = z := ⟨_, rfl⟩
    rw [hz] at hz128 ⊢
    have Hz := Lib.hid hz
    have hw2 : IntKind.i64.wrap (11 + (z : Int)) = ((11 + z : Nat) : Int) := by rw [IntWalk.i64_in _ (by omega)]; omega
    clear hz
    rintro e w2 (⟨h1, rfl, hs⟩ | ⟨h1, rfl, hs⟩)
    · have Hs := Lib.hid hs
      clear hs
      go_wp2
      go_ret2
      exact .inl ⟨18, s, 7, 11, 0, Hsy.out, .inr (.inr (.inl ⟨rfl, rfl, rfl, rfl⟩)), h1, by rw [Hz.out]; rfl, Hs.out.1, H1.out.2.trans Hs.out.2⟩
    · have Hs := Lib.hid hs
      clear hs
      go_wp2
      exact ⟨rfl, .inr ⟨50, fun _ => .few 18 s 7 11 0 Hsy.out (.inr (.inr (.inl ⟨rfl, rfl, rfl, rfl⟩))) h1, rfl, H1.out.2.throws Hs.out⟩⟩
  have d3 : ((x : Int) == 18) = false := by rw [beq_eq_false_iff_ne]; omega
  have hw : IntKind.u8.wrap (x : Int) = (x : Int) := IntWalk.u8_in _ (by omega)
  go_wp2
  go_ret2
  refine .inl ⟨x, s, 0, 1, x, Hsy.out, .inr (.inr (.inr ⟨by omega, rfl, rfl, rfl⟩)), H1.out.1.rd.pos, by rw [nb_zero]; rfl, H1.out⟩
end

end Go.Proofs.YtoladolgmeanhaaGreat

/- inflate: lengths: all lengths that a code tells. -/
namespace Go.Proofs.YtoladolgmeanhaaGreat
open Go.RowKit Go.Maps

def lenV (v : Value) : Nat := match v with
  | .slice _ k _ => k
  | _ => 0
theorem SvC.v_lt {x k c v : Nat} {ls : List Nat} (h : SvC x k c v ls) (hl : ∀ b ∈ ls, b < 256) : v < 256 ∧ 1 ≤ c ∧ c ≤ 11 ∧ k ≤ 7 := by
  rcases h with ⟨-, -, rfl, rfl, rfl⟩ | ⟨-, rfl, rfl, rfl⟩ | ⟨-, rfl, rfl, rfl⟩ | ⟨h, rfl, rfl, rfl⟩
  · exact ⟨getD_lt hl _, by decide, by decide, by decide⟩
  · exact ⟨by decide, by decide, by decide, by decide⟩
  · exact ⟨by decide, by decide, by decide, by decide⟩
  · exact ⟨by omega, by decide, by decide, by decide⟩
section
variable {base S B : Nat} {sv ov uv : Value} {l : List Nat} {lim a a0 : Nat} {o o0 : List Nat}

theorem Sm.k {w : World} (h : Sm w base S B sv ov uv l lim a o) : ∀ i, KS S B ov i → i < w.heap.size := fun i hi => by
  rcases hi with rfl | rfl | hi
  · exact h.size
  · exact h.rd.size
  · exact (h.out.lt _ hi).2
theorem Sm.apart {w0 w w' : World} {T : Nat → Prop} (h0 : Sm w0 base S B sv ov uv l lim a0 o0) (h : Sm w base S B sv ov uv l lim a o) (hf : Turns (KS S B ov) w0 w) (ht : Turns T w w') (hT : ∀ i, T i → w0.heap.size ≤ i) :
    Sm w' base S B sv ov uv l lim a o ∧ Turns (KS S B ov) w0 w' := by
  have hS := h0.size
  have hB := h0.rd.size
  have ht' : Turns (KS S B ov) w0 w' := hf.trans' ht (fun i hi h => absurd (hT i h) (by omega))
  refine ⟨⟨(ht.block S h.size (fun h => by have := hT _ h; omega)).trans h.box, h.rd.turns ht (fun h => by have := hT _ h; omega) (fun k hk h => by have := hT _ h; have := h0.rd.row.lt k hk; omega),
    ht.owns h.out (fun k hk h => by have := hT _ h; have := (h0.out.lt k hk).2; omega), h0.us.imp id (fun hu => hu.go ht' (fun _ _ h => h)), h.ne, h.lo, h.le, h.by'⟩, ht'⟩
set_option maxRecDepth 20000 in
set_option maxHeartbeats 4000000 in
theorem ilens_any (tv : Value) (C : List Nat) (n : Nat) (hn : n ≤ 1000) (w : World) (h : Sm w base S B sv ov uv l lim a o) (ht : TblV w (KS S B ov) tv C) (hC : C.length = 19) :
    Calls Tryz.prog 175 #[.pointer (some ⟨S, 0, none⟩), tv, .int .i64 (n : Int)] w fun e w' =>
      (∃ (a' : Nat) (ls : List Nat) (v : Value), InfLs C l n a [] (.go a' ls) ∧ e = .returned v ∧ w'.ownsRow w.heap.size 5 1 v ls.length (ls.map u8v) ∧ ls.length = n ∧ Sm w' base S B sv ov uv l lim a' o ∧ Turns (KS S B ov) w w') ∨
      (∃ er, InfLs C l n a [] (.no er) ∧ e = thrown er ∧ Turns (KS S B ov) w w') := by
  have H := Lib.hid h
  have Ht := Lib.hid ht
  obtain ⟨T, M, nn, L, F, rfl, -⟩ := ht
  obtain ⟨i0, hi0, hz0, hz1, hz2⟩ := info_parts u8_info
  clear h
  go_enter Tryz.func175, Tryz.ntmps175
  go_wp2_with fail
  go_loopw [7] (fun lv wr => ∃ (a1 : Nat) (ls : List Nat), Hid (wr.ownsRow w.heap.size 5 1 lv ls.length (ls.map u8v)) ∧ ls.length ≤ n ∧ Hid (Sm wr base S B sv ov uv l lim a1 o) ∧ Hid (Turns (KS S B ov) w wr) ∧ Hid (∀ b ∈ ls, b < 256) ∧ Hid (∀ r, InfLs C l n a1 ls r → InfLs C l n a [] r))
    (fun lv _ => n - lenV lv)
  case atStart => exact ⟨a, [], Lib.hid (World.ownsRow_nil _ _ _ _), Nat.zero_le _, H, Lib.hid (Turns.refl _ _), Lib.hid (fun _ h => by cases h), Lib.hid (fun _ h => h)⟩
  case round =>
    obtain ⟨a1, ls, HO, hle, HS, HT, HB, HR⟩ := hrel
    have hk := H.out.k
    have hw := HT.out.size
    obtain ⟨p, c, rfl⟩ := owns_slice HO.out
    have Hap : Hid (∀ k, (Value.slice p ls.length c).ownBlock = some k → ¬ KS S B ov k) := Lib.hid (fun k hk' h => by have := (HO.out.lt k hk').1; have := hk k h; omega)
    have Htb := Lib.hid (Ht.out.go HT.out (fun _ _ h => h))
    by_cases hlt : ls.length < n
    · have d0 : decide (((ls.length : Nat) : Int) < (n : Int)) = true := by simp only [decide_eq_true_eq]; omega
      go_wp2_with fail
      refine Calls.mono (isev_any _ _ C ls wr HS.out Htb.out hC (Rw8.own HO.out rfl) Hap.out (by omega)) ?_
      rintro e w1 (⟨x, s, k, cc, v, hsy, hsv, hfit, rfl, hs⟩ | ⟨er, her, rfl, hs⟩)
      case inr =>
        have Hs := Lib.hid hs
        have Her := Lib.hid (HR.out _ (.no a1 ls er hlt (her n)))
        clear hs her
        go_wp2
        exact ⟨rfl, .inr ⟨er, Her.out, rfl, HT.out.trans Hs.out⟩⟩
      have hv := hsv.v_lt HB.out
      have hnb : nb l (a1 + s) k < 128 := Nat.lt_of_lt_of_le (nb_lt _ _ _) (Nat.pow_le_pow_right (n := 2) (j := 7) (by decide) hv.2.2.2)
      obtain ⟨t, htm⟩ : ∃ t, cc + nb l (a1 + s) k = t := ⟨_, rfl⟩
      rw [htm]
      have htb : 1 ≤ t ∧ t ≤ 1000 := by omega
      have Htm := Lib.hid htm
      have Hsy := Lib.hid (And.intro hsy hsv)
      have HS1 := Lib.hid hs.1
      have HT1 := Lib.hid (HT.out.trans hs.2.turns)
      have HO1 := Lib.hid (hs.2.turns.owns HO.out (fun k hk e => Hap.out k hk e))
      have hw1 : IntKind.i64.wrap ((n : Int) - ((ls.length : Nat) : Int)) = (n : Int) - ((ls.length : Nat) : Int) := IntWalk.i64_in _ (by omega)
      clear hs hsy hsv htm hnb hk
      by_cases hmany : n < ls.length + t
      · have d1 : decide ((n : Int) - ((ls.length : Nat) : Int) < (t : Int)) = true := by simp only [decide_eq_true_eq]; omega
        go_wp2
        exact ⟨rfl, .inr ⟨80, HR.out _ (.no a1 ls 80 hlt (.many x s k cc v Hsy.out.1 Hsy.out.2 hfit (by rw [Htm.out]; exact hmany))), rfl, HT1.out⟩⟩
      have d1 : decide ((n : Int) - ((ls.length : Nat) : Int) < (t : Int)) = false := by simp only [decide_eq_false_iff_not]; omega
      go_wp2_with fail
      refine Calls.mono (irun_any v t hv.1 htb.1 htb.2 w1) ?_
      rintro e w2 ⟨rv, rfl, ho, hb⟩
      rw [rep_row] at ho
      have hrv : Rw8 w2 rv (List.replicate t v) := Rw8.own ho (by simp)
      obtain ⟨p2, c2, rfl, -, -, hsrc⟩ := hrv.src enc8_len (by decide)
      rw [flat8, List.length_replicate] at *
      have HO2 := Lib.hid ((Turns.of_below' (T := fun _ => False) hb).owns HO1.out (fun _ _ h => h))
      have HS2 := Lib.hid (HS1.out.below hb).1
      have HT2 := Lib.hid (HT1.out.trans (Turns.of_below' hb))
      have Hsrc := Lib.hid hsrc
      have hws : w.heap.size ≤ w2.heap.size := HT2.out.size
      clear ho hrv hsrc hb
      go_wp2_with (at_builtin; refine wpList_append_mine w2 rfl (.tmp 28) (.tmp 31) 25 rfl _ 5 i0 _ 1 1 Tryz.underlying25 hi0 hz0 hz1 hz2 rfl (by decide) (.slice p ls.length c) ls.length (ls.map u8v) rfl HO2.out p2 t c2 ((List.replicate t v).map u8v) rfl (by simp) Hsrc.out (one8 _) ?n3 ?n4 hws ?_)
      case n3 => simp only [maxLen]; omega
      case n4 => omega
      intro v3 w3 ho3 hg3 _
      have hgt : Turns (fun k => (Value.slice p ls.length c).ownBlock = some k) w2 w3 := Turns.of_grown hg3 (fun _ h => h)
      have hap := Sm.apart H.out HS2.out HT2.out hgt (fun k hk => (HO2.out.lt k hk).1)
      have hll : (ls ++ List.replicate t v).length = ls.length + t := by simp
      have Hll := Lib.hid hll
      have HO3 : Hid (w3.ownsRow w.heap.size 5 1 v3 (ls ++ List.replicate t v).length ((ls ++ List.replicate t v).map u8v)) := Lib.hid (by rw [hll, List.map_append, List.map_replicate]; exact ho3)
      have HS3 := Lib.hid hap.1
      have HT3 := Lib.hid hap.2
      have HB3 : Hid (∀ b ∈ ls ++ List.replicate t v, b < 256) := Lib.hid (fun b hb => by
        rcases List.mem_append.1 hb with hb | hb
        · exact HB.out b hb
        · rcases List.mem_replicate.1 hb with ⟨-, rfl⟩; exact hv.1)
      have HR3 : Hid (∀ r, InfLs C l n (a1 + s + k) (ls ++ List.replicate t v) r → InfLs C l n a [] r) := Lib.hid (fun r hr => HR.out r (.more a1 _ ls _ r hlt (by
        have := InfSv.go (n := n) x s k cc v Hsy.out.1 Hsy.out.2 hfit (by rw [Htm.out]; omega)
        rw [Htm.out] at this
        exact this) hr))
      have hv3 : lenV v3 = ls.length + t := by obtain ⟨q, cq, rfl⟩ := owns_slice ho3; rfl
      have Hv3 := Lib.hid hv3
      clear ho3 hg3 hgt hap hll hv3
      go_wp2
      go_roundw
      case rel => exact ⟨a1 + s + k, _, HO3, by rw [Hll.out]; omega, HS3, HT3, HB3, HR3⟩
      case measure =>
        show n - lenV v3 < n - ls.length
        rw [Hv3.out]; omega
    · have d0 : decide (((ls.length : Nat) : Int) < (n : Int)) = false := by simp only [decide_eq_false_iff_not]; omega
      go_wp2
      go_ret
      exact .inl ⟨a1, ls, _, HR.out _ (.fin a1 ls (by omega)), rfl, HO.out, by omega, HS.out, HT.out⟩
end

end Go.Proofs.YtoladolgmeanhaaGreat
