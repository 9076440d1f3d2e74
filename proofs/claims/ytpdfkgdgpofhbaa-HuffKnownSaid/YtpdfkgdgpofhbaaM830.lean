/- Several texts in one, each with its own head. -/
import Derived.Test.YtpdfkgdgpofhbaaM829
import Derived.Test.YtpdfkgdgpofhbaaM824
/- The statements' own: is an example what it is; how many frequencies are above nought. -/
namespace Go.Proofs.Ytpdfkgdgpofhbaa
open Go.RowKit

theorem flatZ : ∀ l : List Int, l.flatMap encZ = l.map (Value.int .i64)
  | [] => rfl
  | b :: r => by rw [List.flatMap_cons, flatZ r]; rfl

theorem row_lit8 (w : World) (ls : List Nat) (h : ls.length ≤ 1048576) : Row enc8 1 (w.alloc (.cells (ls.map u8v).toArray 5)) (.slice (some ⟨w.heap.size, 0, none⟩) ls.length ls.length) ls := by
  have := World.ownsRow_lit (base := 0) (size := 1) (e := 5) w (ls.map u8v).toArray ls.length (Nat.zero_le _) (by simp only [maxLen]; omega) (by simp)
  rw [show (ls.map u8v).toArray.toList = ls.flatMap enc8 from (flat8 ls).symm] at this
  exact owns_row' enc8_len this
theorem row_litZ (w : World) (fs : List Int) (h : fs.length ≤ 1048576) : Row encZ 1 (w.alloc (.cells (fs.map (Value.int .i64)).toArray 3)) (.slice (some ⟨w.heap.size, 0, none⟩) fs.length fs.length) fs := by
  have := World.ownsRow_lit (base := 0) (size := 1) (e := 3) w (fs.map (Value.int .i64)).toArray fs.length (Nat.zero_le _) (by simp only [maxLen]; omega) (by simp)
  rw [show (fs.map (Value.int .i64)).toArray.toList = fs.flatMap encZ from (flatZ fs).symm] at this
  exact owns_row' encZ_len this

theorem owns_ptr {w : World} {base : Nat} {e : TypeId} {v : Value} {n : Nat} {xs : List Value} (h : w.ownsRow base e 1 v n xs) (hn : 0 < n) : ∃ g c, v = .slice (some ⟨g, 0, none⟩) n c ∧ base ≤ g ∧ g < w.heap.size ∧ ∀ i u, xs[i]? = some u → w.cell? ⟨g, i, none⟩ = some u := by
  have hl := h.1
  rcases h.2 with ⟨-, h0⟩ | ⟨g, cap, cur, rfl, hg, hh, -⟩
  · omega
  · refine ⟨g, cap, rfl, hg, lt_heap hh, fun i u hi => ?_⟩
    have := (List.getElem?_eq_some_iff.1 hi).1
    rw [h.cellAt i (by omega)]; exact hi

theorem ex_codes : chk [2, 1, 3, 3] = 0 := by decide
theorem ex_may : mayB [1, 1, 2, 4] ((2 : Nat) : Int) = true := by decide
theorem ex_many : many 4 (fq [1, 1, 2, 4]) = 4 := by decide

theorem ex_lens {g : Nat → Nat} (h : LensOk [1, 1, 2, 4] 2 g) : g 0 = 2 ∧ g 3 = 2 := by
  have h0 := (h.le 0 (by decide))
  have h1 := (h.le 1 (by decide))
  have h2 := (h.le 2 (by decide))
  have h3 := (h.le 3 (by decide))
  have f0 : 0 < fq [1, 1, 2, 4] 0 := by decide
  have f1 : 0 < fq [1, 1, 2, 4] 1 := by decide
  have f2 : 0 < fq [1, 1, 2, 4] 2 := by decide
  have f3 : 0 < fq [1, 1, 2, 4] 3 := by decide
  have p0 := h0.2.2 f0
  have p1 := h1.2.2 f1
  have p2 := h2.2.2 f2
  have p3 := h3.2.2 f3
  have hr := h.code (by show 2 ≤ many 4 (fq [1, 1, 2, 4]); rw [ex_many]; decide)
  have hr' : room 4 2 g = 4 := hr
  simp only [room, sm, if_pos p0, if_pos p1, if_pos p2, if_pos p3, Nat.zero_add] at hr'
  have key : ∀ x, 0 < x → x ≤ 2 → (x = 1 ∧ 2 ^ (2 - x) = 2) ∨ (x = 2 ∧ 2 ^ (2 - x) = 1) := fun x a b => by
    have : x = 1 ∨ x = 2 := by omega
    rcases this with rfl | rfl
    · exact .inl ⟨rfl, rfl⟩
    · exact .inr ⟨rfl, rfl⟩
  have k0 := key _ p0 h0.1
  have k1 := key _ p1 h1.1
  have k2 := key _ p2 h2.1
  have k3 := key _ p3 h3.1
  omega

set_option maxRecDepth 20000 in
set_option maxHeartbeats 2000000 in
theorem codes_law (w : World) : Makes Try.prog 11 #[] w (.bool true) := by
  go_enter Try.func11, Try.ntmps11
  go_wp2_with fail
  have hr1 := row_lit8 w [2, 1, 3, 3] (by decide)
  refine Calls.mono (codes_ok [2, 1, 3, 3] _ _ hr1 ex_codes) ?_
  rintro e w1 ⟨v1, rfl, ho1, hb1⟩
  have hbw1 := Below.thn (Below.al1 w _) hb1
  obtain ⟨p1, c1, rfl⟩ := owns_slice ho1
  have Ho1 := Lib.hid ho1
  have Hb1 := Lib.hid hbw1
  clear ho1 hb1 hbw1 hr1
  go_wp2_with fail
  have hr2 := row_litZ w1 [1, 1, 2, 4] (by decide)
  refine Calls.mono (lengths_ok [1, 1, 2, 4] _ 2 _ hr2 ex_may (by show many 4 (fq [1, 1, 2, 4]) ≤ 2 ^ 2; rw [ex_many]; decide)) ?_
  rintro e w2 ⟨v2, g, rfl, ho2, hok, hb2⟩
  have hbw2 := Below.thn (Below.al1 w1 _) hb2
  obtain ⟨g2, c2, rfl, -, -, hc2⟩ := owns_ptr ho2 (by decide)
  have ho12 := (Turns.of_below' (T := fun _ => False) hbw2).owns Ho1.out (fun _ _ h => h)
  have Hb2 := Lib.hid (Below.thn Hb1.out hbw2)
  obtain ⟨g1, c1', e1, -, -, hc1⟩ := owns_ptr ho12 (by decide)
  injection e1 with e1 _ e2
  subst e1 e2
  have a0 : w2.cell? ⟨g1, 0, none⟩ = some (.int .u16 1) := hc1 0 _ (by rw [cRow_at _ (by decide)]; rfl)
  have a1 : w2.cell? ⟨g1, 1, none⟩ = some (.int .u16 0) := hc1 1 _ (by rw [cRow_at _ (by decide)]; rfl)
  have a2 : w2.cell? ⟨g1, 2, none⟩ = some (.int .u16 3) := hc1 2 _ (by rw [cRow_at _ (by decide)]; rfl)
  have a3 : w2.cell? ⟨g1, 3, none⟩ = some (.int .u16 7) := hc1 3 _ (by rw [cRow_at _ (by decide)]; rfl)
  obtain ⟨x0, x3⟩ := ex_lens hok
  have b0 : w2.cell? ⟨g2, 0, none⟩ = some (.int .u8 2) := hc2 0 _ (by rw [lensRow_at _ (by decide), x0]; rfl)
  have b3 : w2.cell? ⟨g2, 3, none⟩ = some (.int .u8 2) := hc2 3 _ (by rw [lensRow_at _ (by decide), x3]; rfl)
  clear hc1 hc2 ho12 ho2 hok x0 x3 hb2 hbw2 hr2
  go_wp2
  go_ret
  exact ⟨rfl, Hb2.out⟩

end Go.Proofs.Ytpdfkgdgpofhbaa

/- The statements' own: the same lengths, asked again. -/
namespace Go.Proofs.Ytpdfkgdgpofhbaa
open Go.RowKit

theorem ag_may : mayB [3, 3, 3, 1, 1, 1, 1, 9, 9] ((4 : Nat) : Int) = true := by decide
theorem ag_many : many 9 (fq [3, 3, 3, 1, 1, 1, 1, 9, 9]) = 9 := by decide

/-- A row of nine bytes of its own that is yet from i on what it was. -/
def RestAt (wr : World) (base ga ca : Nat) (g : Nat → Nat) (i : Nat) : Prop :=
  ∃ xs, wr.ownsRow base 5 1 (.slice (some ⟨ga, 0, none⟩) 9 ca) 9 xs ∧ ∀ j, i ≤ j → j < 9 → xs[j]? = some (u8v (g j))
theorem RestAt.cell {wr : World} {base ga ca : Nat} {g : Nat → Nat} {i : Nat} (h : RestAt wr base ga ca g i) (hi : i < 9) : wr.cell? ⟨ga, i, none⟩ = some (.int .u8 ((g i : Nat) : Int)) ∧ wr.frozen? ⟨ga, i, none⟩ = false := by
  obtain ⟨xs, h1, h2⟩ := h
  exact ⟨by rw [h1.cellAt i hi, h2 i (Nat.le_refl _) hi]; rfl, h1.frozenAt i⟩
theorem RestAt.put {wr : World} {base ga ca : Nat} {g : Nat → Nat} {i : Nat} (h : RestAt wr base ga ca g i) (_hi : i < 9) : RestAt (wr.setCell ⟨ga, i, none⟩ (.int .u8 77)) base ga ca g (i + 1) := by
  obtain ⟨xs, h1, h2⟩ := h
  refine ⟨_, (h1.stored i (.int .u8 77)).1, fun j h3 h4 => ?_⟩
  rw [List.getElem?_set_ne (by omega)]
  exact h2 j (by omega) h4
theorem RestAt.turns {wr wr' : World} {base ga ca : Nat} {g : Nat → Nat} {i : Nat} {T : Nat → Prop} (h : RestAt wr base ga ca g i) (ht : Turns T wr wr') (hT : ¬ T ga) : RestAt wr' base ga ca g i := by
  obtain ⟨xs, h1, h2⟩ := h
  exact ⟨xs, ht.owns h1 (fun k hk hk2 => by cases hk; exact hT hk2), h2⟩

set_option maxRecDepth 20000 in
set_option maxHeartbeats 4000000 in
theorem again_law (w : World) : Makes Try.prog 22 #[] w (.bool true) := by
  go_enter Try.func22, Try.ntmps22
  go_wp2_with fail
  have hr1 := row_litZ w [3, 3, 3, 1, 1, 1, 1, 9, 9] (by decide)
  refine Calls.mono (lengths_det [3, 3, 3, 1, 1, 1, 1, 9, 9] _ 4 _ hr1 ag_may (by show many 9 (fq [3, 3, 3, 1, 1, 1, 1, 9, 9]) ≤ 2 ^ 4; rw [ag_many]; decide)) ?_
  rintro e w1 ⟨v1, g1, rfl, ho1, -, hd1, hb1⟩
  have ho1 : w1.ownsRow _ 5 1 v1 9 (lensRow g1 9) := ho1
  have hD1 := hd1 (by show many 9 (fq [3, 3, 3, 1, 1, 1, 1, 9, 9]) ≠ 1; rw [ag_many]; decide)
  have hrf := hr1.below hb1
  obtain ⟨ga, ca, rfl, hga, hga2, -⟩ := owns_ptr ho1 (by decide)
  have Ho1 := Lib.hid ho1
  have Hrf := Lib.hid hrf
  have Hb1 := Lib.hid (Below.thn (Below.al1 w _) hb1)
  have hg0 : w.heap.size + 1 ≤ ga := by simpa using hga
  clear hr1 ho1 hb1 hrf hga hd1
  go_wp2_with fail
  refine Calls.mono (lengths_det [3, 3, 3, 1, 1, 1, 1, 9, 9] _ 4 w1 Hrf.out ag_may (by show many 9 (fq [3, 3, 3, 1, 1, 1, 1, 9, 9]) ≤ 2 ^ 4; rw [ag_many]; decide)) ?_
  rintro e w2 ⟨v2, g2, rfl, ho2, -, hd2, hb2⟩
  have ho2 : w2.ownsRow w1.heap.size 5 1 v2 9 (lensRow g2 9) := ho2
  obtain rfl : g1 = g2 := hD1.det (hd2 (by show many 9 (fq [3, 3, 3, 1, 1, 1, 1, 9, 9]) ≠ 1; rw [ag_many]; decide))
  obtain ⟨gb, cb, rfl, hgb, hgb2, hcb⟩ := owns_ptr ho2 (by decide)
  have Hcb : Hid (∀ i, i < 9 → w2.cell? ⟨gb, i, none⟩ = some (.int .u8 ((g1 i : Nat) : Int))) := Lib.hid (fun i hi => hcb i _ (by rw [lensRow_at _ hi]; rfl))
  have HR0 : Hid (RestAt w2 (w.heap.size + 1) ga ca g1 0) := Lib.hid ⟨_, hq_base ((Turns.of_below' (T := fun _ => False) hb2).owns Ho1.out (fun _ _ h => h)) (by simp), fun j _ hj => lensRow_at _ hj⟩
  have Hrf2 := Lib.hid (Hrf.out.below hb2)
  have Hb2 := Lib.hid (Below.thn Hb1.out hb2)
  have hab : ga ≠ gb := by omega
  clear ho2 hd2 hb2 hcb Ho1 Hrf
  go_wp2
  go_loopw [6] (fun iv wr => ∃ i : Nat, iv = .int .i64 (i : Int) ∧ i ≤ 9 ∧ Hid (RestAt wr (w.heap.size + 1) ga ca g1 i) ∧ Hid (Turns (fun k => k = ga) w2 wr)) (fun iv _ => 9 - (intOf iv).toNat)
  case atStart => exact ⟨0, rfl, Nat.zero_le _, HR0, Lib.hid (Turns.refl _ _)⟩
  case round =>
    obtain ⟨i, rfl, hi, HR, HT⟩ := hrel
    by_cases hin : i < 9
    · have d1 : decide ((i : Int) < 9) = true := by simp; omega
      obtain ⟨c1, c2⟩ := HR.out.cell hin
      have c3 := HT.out.cell (Hcb.out i hin) (fun e => hab e.symm)
      have i0 : (0 : Int) ≤ (i : Int) := by omega
      have i1 : (i : Int) < 9 := by omega
      have Hc := Lib.hid c2
      clear c2
      go_upto_region 9 with (fail)
      go_quiet (fail)
      rename_i nq
      have hd : Below wr.heap.size wr (wr.drewN nq) := Below.drewN' (Below.refl _ _) nq
      have ht := Turns.of_below' (T := fun k => k = ga) hd
      have HR1 := Lib.hid (HR.out.turns (Turns.of_below' (T := fun _ => False) hd) (fun h => h))
      have HT1 := Lib.hid (HT.out.trans ht)
      generalize wr.drewN nq = W5 at *
      obtain ⟨c1, c2⟩ := HR1.out.cell hin
      have HR2 := Lib.hid (HR1.out.put hin)
      have HT2 := Lib.hid (HT1.out.set (p := ⟨ga, i, none⟩) rfl (.int .u8 77))
      clear hd ht c3
      go_wp2
      go_roundw
      case rel => exact ⟨i + 1, by go_num, by omega, HR2, HT2⟩
      case measure => simp [intOf]; omega
    · obtain rfl : i = 9 := by omega
      have Hbr := Lib.hid (show Below w.heap.size w wr from Hb2.out.trans (HT.out.below Hb2.out.size (fun k hk => by omega)))
      have hrf3 : Row encZ 1 wr (.slice (some ⟨w.heap.size, 0, none⟩) 9 9) [3, 3, 3, 1, 1, 1, 1, 9, 9] := Hrf2.out.turns HT.out (fun b hb hk => by
        cases hb
        have hk : w.heap.size = ga := hk
        omega)
      have hcb3 : ∀ i, i < 9 → wr.cell? ⟨gb, i, none⟩ = some (.int .u8 ((g1 i : Nat) : Int)) := fun i hi => HT.out.cell (Hcb.out i hi) (fun e => hab e.symm)
      have Hrf3 := Lib.hid hrf3
      have Hcb3 := Lib.hid hcb3
      clear hrf3 hcb3 HR HT Hcb Hrf2 Hb2 HR0
      generalize wr = W3 at *
      go_wp2_with fail
      refine Calls.mono (lengths_det [3, 3, 3, 1, 1, 1, 1, 9, 9] _ 4 W3 Hrf3.out ag_may (by show many 9 (fq [3, 3, 3, 1, 1, 1, 1, 9, 9]) ≤ 2 ^ 4; rw [ag_many]; decide)) ?_
      rintro e w4 ⟨v3, g3, rfl, ho3, -, hd3, hb3⟩
      have ho3 : w4.ownsRow W3.heap.size 5 1 v3 9 (lensRow g3 9) := ho3
      obtain rfl : g1 = g3 := hD1.det (hd3 (by show many 9 (fq [3, 3, 3, 1, 1, 1, 1, 9, 9]) ≠ 1; rw [ag_many]; decide))
      obtain ⟨gc, cc, rfl, -, -, hcc⟩ := owns_ptr ho3 (by decide)
      have Hcc : Hid (∀ i, i < 9 → w4.cell? ⟨gc, i, none⟩ = some (.int .u8 ((g1 i : Nat) : Int))) := Lib.hid (fun i hi => hcc i _ (by rw [lensRow_at _ hi]; rfl))
      have Hcb4 : Hid (∀ i, i < 9 → w4.cell? ⟨gb, i, none⟩ = some (.int .u8 ((g1 i : Nat) : Int))) := Lib.hid (fun i hi => cell_later hb3 (Hcb3.out i hi))
      have Hb4 := Lib.hid (Below.thn Hbr.out hb3)
      clear ho3 hd3 hb3 hcc Hcb3 Hrf3 Hbr
      go_wp2
      go_loopw [9] (fun iv wr => ∃ i : Nat, iv = .int .i64 (i : Int) ∧ i ≤ 9 ∧ Hid (Below w4.heap.size w4 wr)) (fun iv _ => 9 - (intOf iv).toNat)
      case atStart => exact ⟨0, rfl, Nat.zero_le _, Lib.hid (Below.refl _ _)⟩
      case round =>
        obtain ⟨i, rfl, hi, HB⟩ := hrel
        by_cases hin : i < 9
        · have d1 : decide ((i : Int) < 9) = true := by simp; omega
          have c1 := cell_later HB.out (Hcc.out i hin)
          have c2 := cell_later HB.out (Hcb4.out i hin)
          have i0 : (0 : Int) ≤ (i : Int) := by omega
          have i1 : (i : Int) < 9 := by omega
          go_upto_region 16 with (fail)
          go_quiet (fail)
          rename_i nq
          have hd : Below wr.heap.size wr (wr.drewN nq) := Below.drewN' (Below.refl _ _) nq
          have HB2 := Lib.hid (Below.thn HB.out hd)
          generalize wr.drewN nq = W5 at *
          clear hd c1 c2
          go_wp2
          go_roundw
          case rel => exact ⟨i + 1, by go_num, by omega, HB2⟩
          case measure => simp [intOf]; omega
        · obtain rfl : i = 9 := by omega
          go_wp2
          go_ret
          exact ⟨rfl, Below.thn Hb4.out HB.out⟩

end Go.Proofs.Ytpdfkgdgpofhbaa
