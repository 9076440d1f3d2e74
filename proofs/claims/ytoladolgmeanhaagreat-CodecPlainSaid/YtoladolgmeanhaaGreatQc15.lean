/- Several texts in one, each with its own head. -/
import Derived.Test.YtoladolgmeanhaaGreatQc14
import Derived.Great.BuildSlice
/- inflate: lengthsCode: the code by which lengths are told. -/
namespace Go.Proofs.YtoladolgmeanhaaGreat
open Go.RowKit Go.Maps

section
variable {base S B : Nat} {sv ov uv : Value} {l : List Nat} {lim a a0 : Nat} {o o0 : List Nat}

theorem ordL_at : ∀ i, i < 19 → ordL.getD i 0 < 19 := by decide
theorem lensRow_setA (f : Nat → Nat) {n x : Nat} (v : Nat) (_hx : x < n) : (lensRow f n).toArray.setIfInBounds x (u8v v) = (lensRow (fun i => if i = x then v else f i) n).toArray := by
  apply Array.ext
  · simp [lensRow]
  · intro i h1 h2
    have hi : i < n := by simpa [lensRow] using h2
    rw [Array.getElem_setIfInBounds (by simpa [lensRow] using hi)]
    by_cases e : x = i
    · subst e
      simp [lensRow]
    · have e' : ¬ i = x := fun h => e h.symm
      simp [lensRow, e, e']
def TabEnds (base S B : Nat) (sv ov uv : Value) (l : List Nat) (lim a' : Nat) (o ls : List Nat) (w : World) (few : Prop) (e : Ending) (w' : World) : Prop :=
  (∃ tv, ¬ few ∧ chk ls = 0 ∧ e = .returned tv ∧ TblV w' (KS S B ov) tv ls ∧ Sm w' base S B sv ov uv l lim a' o ∧ Turns (KS S B ov) w w') ∨
  (few ∧ e = thrown 50 ∧ Turns (KS S B ov) w w') ∨ (¬ few ∧ chk ls ≠ 0 ∧ e = thrown (chk ls) ∧ Turns (KS S B ov) w w')
set_option maxRecDepth 20000 in
set_option maxHeartbeats 4000000 in
theorem ilcode_any (n : Nat) (hn : n ≤ 19) (w : World) (h : Sm w base S B sv ov uv l lim a o) :
    Calls Tryz.prog 176 #[.pointer (some ⟨S, 0, none⟩), .int .i64 (n : Int)] w (TabEnds base S B sv ov uv l lim (a + 3 * n) o (clL l a n) w (8 * l.length < a + 3 * n)) := by
  have H := Lib.hid h
  clear h
  go_enter Tryz.func176, Tryz.ntmps176
  go_upto_region 1 with (fail)
  refine wp_region_lit ?_
  refine wpList_buildTo rfl 247 _ rfl (some 9) rfl ((ordL.map u8v).toArray) (by kernel_rfl) ?_
  refine wpList_plain rfl fun K hK => ?_
  go_simp
  refine hK _ _ ?_
  clear hK K
  have hz := World.alloc_heap_new w (.cells #[.int .u8 0, .int .u8 0, .int .u8 0, .int .u8 0, .int .u8 0, .int .u8 0, .int .u8 0, .int .u8 0, .int .u8 0, .int .u8 0, .int .u8 0, .int .u8 0, .int .u8 0, .int .u8 0, .int .u8 0, .int .u8 0, .int .u8 0, .int .u8 0, .int .u8 0] 247)
  refine wpList_store_rowTo rfl 247 _ _ rfl rfl w.heap.size ((ordL.map u8v).toArray) rfl rfl 247 _ hz (by kernel_rfl) (by kernel_rfl) (by kernel_rfl) ?_
  generalize hw1 : World.setRow _ w.heap.size _ = w1
  have ho1 : w1.heap[w.heap.size]? = some (.cells (ordL.map u8v).toArray 247) := by rw [← hw1]; exact setRow_heap _ _ _ _ _ _ hz
  have hb1 : Below w.heap.size w w1 := by rw [← hw1]; exact below_setRow (Below.al1 _ _) (Nat.le_refl _) _
  clear hw1 hz
  go_upto_region 3 with (fail)
  have hz2 : (w1.alloc (.cells (lensRow (clF l a 0) 19).toArray 247)).heap[w1.heap.size]? = some (.cells (lensRow (clF l a 0) 19).toArray 247) := World.alloc_heap_new _ _
  have hb2 : Below w.heap.size w (w1.alloc (.cells (lensRow (clF l a 0) 19).toArray 247)) := Below.thn hb1 (Below.al1 _ _)
  have hoz : w.heap.size < w1.heap.size := lt_heap ho1
  have ho2 : (w1.alloc (.cells (lensRow (clF l a 0) 19).toArray 247)).heap[w.heap.size]? = some (.cells (ordL.map u8v).toArray 247) := ((Below.al1 w1 _).block _ hoz).trans ho1
  change Code.wp _ _ _ _ (w1.alloc (.cells (lensRow (clF l a 0) 19).toArray 247))
  generalize w1.alloc _ = W at *
  obtain ⟨Z, hZ⟩ : ∃ Z, w1.heap.size = Z := ⟨_, rfl⟩
  obtain ⟨O, hO⟩ : ∃ O, w.heap.size = O := ⟨_, rfl⟩
  rw [hZ] at hz2 hoz ⊢
  rw [hO] at ho2 hoz ⊢
  have HK : Hid (∀ i, KS S B ov i → i < O) := Lib.hid (by rw [← hO]; exact H.out.k)
  have HO := Lib.hid hO
  have H1 := Lib.hid (And.intro (H.out.below hb2).1 (Turns.of_below' (T := KS S B ov) hb2))
  have Hz := Lib.hid hz2
  have Ho := Lib.hid ho2
  have hn1 : (n : Int) ≤ 19 := by omega
  have hn0 : (0 : Int) ≤ (n : Int) := by omega
  clear hz2 hb2 ho2 hb1 ho1 hZ hO
  go_wp2_with fail
  go_loopw [13] (fun iv wr => ∃ i : Nat, iv = .int .i64 (i : Int) ∧ i ≤ n ∧ Hid (Sm wr base S B sv ov uv l lim (a + 3 * i) o ∧ Turns (KS S B ov) w wr) ∧ Hid (wr.heap[Z]? = some (.cells (lensRow (clF l a i) 19).toArray 247)) ∧ Hid (wr.heap[O]? = some (.cells (ordL.map u8v).toArray 247))) (fun iv _ => n - (intOf iv).toNat)
  case atStart => exact ⟨0, rfl, Nat.zero_le _, H1, Hz, Ho⟩
  case round =>
    obtain ⟨i, rfl, hi, HS, HZ, HOr⟩ := hrel
    by_cases hin : i < n
    · have d0 : decide ((i : Int) < (n : Int)) = true := by simp; omega
      have hx := ordL_at i (by omega)
      have hcell : wr.cell? ⟨O, i, none⟩ = some (.int .u8 ((ordL.getD i 0 : Nat) : Int)) := by
        have hl : i < ordL.length := by show i < 19; omega
        rw [cell_heap HOr.out (i := i) (v := u8v (ordL.getD i 0)) (by rw [List.getElem?_toArray, List.getElem?_map, List.getD_eq_getElem?_getD, List.getElem?_eq_getElem hl]; rfl)]
        rfl
      obtain ⟨x, hxe⟩ : ∃ x, ordL.getD i 0 = x := ⟨_, rfl⟩
      rw [hxe] at hcell hx
      have Hx := Lib.hid hxe
      have j0 : (0 : Int) ≤ (i : Int) := by omega
      have j1 : (i : Int) < (n : Int) := by omega
      clear hxe
      go_wp2_with fail
      refine Calls.mono (inum_any 3 (by decide) wr HS.out.1) ?_
      rintro e w2 (⟨h1, rfl, hs⟩ | ⟨h1, rfl, hs⟩)
      case inr =>
        have Hs := Lib.hid hs
        clear hs
        go_wp2
        exact ⟨rfl, .inr (.inl ⟨by omega, rfl, HS.out.2.trans Hs.out⟩)⟩
      have hz8 : nb l (a + 3 * i) 3 < 8 := nb_lt _ _ _
      obtain ⟨z, hz⟩ : ∃ z, nb l (a + 3 * i) 3 = z := ⟨_, rfl⟩
      rw [hz] at hz8 ⊢
      have Hze := Lib.hid hz
      have hwz : IntKind.u8.wrap (z : Int) = (z : Int) := IntWalk.u8_in _ (by omega)
      have HS2 := Lib.hid (And.intro hs.1 (HS.out.2.trans hs.2.turns))
      have hZ2 : w2.heap[Z]? = some (.cells (lensRow (clF l a i) 19).toArray 247) := (hs.2.turns.block Z (lt_heap HZ.out) (fun h => by have := HK.out Z h; omega)).trans HZ.out
      have HO2 : Hid (w2.heap[O]? = some (.cells (ordL.map u8v).toArray 247)) := Lib.hid ((hs.2.turns.block O (lt_heap HOr.out) (fun h => by have := HK.out O h; omega)).trans HOr.out)
      have hc2 : w2.cell? ⟨Z, x, none⟩ = some (u8v (clF l a i x)) := cell_heap hZ2 (by rw [List.getElem?_toArray, lensRow_at _ hx])
      have hf2 : w2.frozen? ⟨Z, x, none⟩ = false := by simp [World.frozen?, hZ2]
      have hset : (w2.setCell ⟨Z, x, none⟩ (u8v z)).heap[Z]? = some (.cells (lensRow (clF l a (i + 1)) 19).toArray 247) := by
        rw [setCell_eq_setRow w2 Z x _ _ _ _ hZ2, setRow_heap w2 Z _ _ _ _ hZ2, lensRow_setA _ _ hx]
        have : (fun k => if k = x then z else clF l a i k) = clF l a (i + 1) := by
          funext k
          show _ = if k = ordL.getD i 0 then nb l (a + 3 * i) 3 else clF l a i k
          rw [Hx.out, Hze.out]
        rw [this]
      have hset2 : (w2.setCell ⟨Z, x, none⟩ (u8v z)).heap[O]? = some (.cells (ordL.map u8v).toArray 247) := (Below.heap_setCell _ _ _ O (fun h => by simp only at h; omega)).trans HO2.out
      have hap := Sm.apart H.out HS2.out.1 HS2.out.2 (T := fun k => k = Z) (Turns.set (T := fun k => k = Z) (p := ⟨Z, x, none⟩) (Turns.refl _ w2) rfl (u8v z)) (fun k hk => by cases hk; have := HO.out; omega)
      have x0 : (0 : Int) ≤ (x : Int) := by omega
      have x1 : (x : Int) < 19 := by omega
      unfold u8v at hc2 hset hset2 hap
      have Hset := Lib.hid (And.intro hset (And.intro hset2 hap))
      clear hs hz hZ2 hset hset2 hap
      go_wp2
      go_roundw
      case rel => exact ⟨i + 1, by go_num, by omega, Lib.hid ⟨by rw [show a + 3 * (i + 1) = a + 3 * i + 3 by omega]; exact Hset.out.2.2.1, Hset.out.2.2.2⟩, Lib.hid Hset.out.1, Lib.hid Hset.out.2.1⟩
      case measure => simp [intOf]; omega
    · obtain rfl : i = n := by omega
      have hpos := HS.out.1.rd.pos
      have hcl : (clL l a i).length = 19 := by simp [clL]
      have hrow : Row enc8 1 wr (.slice (some ⟨Z, 0, none⟩) 19 19) (clL l a i) := by
        refine ⟨some ⟨Z, 0, none⟩, 19, by rw [hcl], by omega, by decide, .inr ⟨Z, 0, rfl, lt_heap HZ.out, fun k x hx j u hu => ?_⟩⟩
        cases j with
        | succ j => cases hu
        | zero =>
          cases hu
          have hk : k < 19 := by rw [← hcl]; exact (List.getElem?_eq_some_iff.1 hx).1
          rw [Nat.mul_one, Nat.zero_add, Nat.add_zero]
          refine cell_heap HZ.out ?_
          rw [List.getElem?_toArray, lensRow_at _ hk]
          have : clF l a i k = x := by
            unfold clL at hx
            rw [List.getElem?_map, List.getElem?_range hk] at hx
            simpa using hx
          rw [this]
      have Hrow := Lib.hid hrow
      clear hrow hcl
      by_cases hc : chk (clL l a i) = 0
      · have Hc := Lib.hid hc
        clear hc
        go_wp2_with fail
        refine Calls.mono (itable_ok _ _ wr Hrow.out Hc.out) ?_
        rintro e w2 ⟨tv, rfl, ht, hb⟩
        have Ht := Lib.hid (ht.go (K' := KS S B ov) (Turns.refl _ _) (fun k _ hk => by have := HK.out k hk; have := HS.out.2.size; have := HO.out; omega))
        have Hb := Lib.hid hb
        clear ht hb
        go_wp2
        go_ret
        exact .inl ⟨_, by omega, Hc.out, rfl, Ht.out, (HS.out.1.below Hb.out).1, HS.out.2.trans (Turns.of_below' Hb.out)⟩
      · have Hc := Lib.hid hc
        clear hc
        go_wp2_with fail
        refine Calls.mono (itable_bad _ _ wr Hrow.out Hc.out) ?_
        rintro e w2 ⟨rfl, rfl⟩
        go_wp2
        exact ⟨rfl, .inr (.inr ⟨by omega, Hc.out, rfl, HS.out.2⟩)⟩
end

end Go.Proofs.YtoladolgmeanhaaGreat

/- inflate: ownCodes and dynamic. -/
namespace Go.Proofs.YtoladolgmeanhaaGreat
open Go.RowKit Go.Maps

theorem slice_tailC (G n c m : Nat) (h : m ≤ n) (hc : m < c) (w : World) : (Instr.slice 25 (.slice (some ⟨G, 0, none⟩) n c) (some (.int .i64 (m : Int))) none none).run Tryz.prog w = .ok (.slice (some ⟨G, m, none⟩) (n - m) (c - m)) w := by
  obtain ⟨i, hi, hz, hs, hb⟩ := info_parts u8_info
  rw [run_slice_l w 25 (some ⟨G, 0, none⟩) n c (by kernel_rfl) .i64 (m : Int) (by omega) (by omega), Int.toNat_natCast]
  have : ¬ c = m := by omega
  simp [go_sem, this]
theorem slice_headC (G n c m : Nat) (h : m ≤ c) (w : World) : (Instr.slice 25 (.slice (some ⟨G, 0, none⟩) n c) none (some (.int .i64 (m : Int))) none).run Tryz.prog w = .ok (.slice (some ⟨G, 0, none⟩) m c) w := by
  obtain ⟨i, hi, hz, hs, hb⟩ := info_parts u8_info
  rw [run_slice_h w 25 (some ⟨G, 0, none⟩) n c (by kernel_rfl) .i64 (m : Int) (by omega) (by omega), Int.toNat_natCast]
  simp [go_sem]
theorem row_of_cells {w : World} {g off c : Nat} {xs : List Nat} (hg : g < w.heap.size) (hx : ∀ i (h : i < xs.length), w.cell? ⟨g, off + i, none⟩ = some (u8v xs[i])) (hc : xs.length ≤ c) (hm : c ≤ maxLen) : Row enc8 1 w (.slice (some ⟨g, off, none⟩) xs.length c) xs := by
  refine ⟨_, c, rfl, hc, hm, .inr ⟨g, off, rfl, hg, fun i x hxi j u hu => ?_⟩⟩
  cases j with
  | succ j => cases hu
  | zero =>
    cases hu
    obtain ⟨h1, rfl⟩ := List.getElem?_eq_some_iff.1 hxi
    rw [Nat.mul_one, Nat.add_zero]
    exact hx i h1
section
variable {base S B : Nat} {sv ov uv : Value} {l : List Nat} {lim a a0 : Nat} {o o0 : List Nat}

def OwnEnds (base S B : Nat) (sv ov uv : Value) (l : List Nat) (lim a : Nat) (o : List Nat) (w : World) (e : Ending) (w' : World) : Prop :=
  (∃ (n a' : Nat) (ls : List Nat) (cv : Value), InfDy l a n (.go a' ls) ∧ ls.length ≤ 316 ∧ e = .returned cv ∧ Codn w' (KS S B ov) cv (ls.take n) (ls.drop n) ∧ Sm w' base S B sv ov uv l lim a' o ∧ Turns (KS S B ov) w w') ∨
  (∃ er, InfDy l a 0 (.no er) ∧ e = thrown er ∧ Turns (KS S B ov) w w')
set_option maxRecDepth 20000 in
set_option maxHeartbeats 4000000 in
theorem iown_any (w : World) (h : Sm w base S B sv ov uv l lim a o) :
    Calls Tryz.prog 162 #[.pointer (some ⟨S, 0, none⟩)] w (OwnEnds base S B sv ov uv l lim a o w) := by
  have H := Lib.hid h
  clear h
  go_enter Tryz.func162, Tryz.ntmps162
  go_wp2_with fail
  refine Calls.mono (inum_any 5 (by decide) w H.out) ?_
  have h32 : nb l a 5 < 32 := nb_lt _ _ _
  obtain ⟨x, hx⟩ : ∃ x, nb l a 5 = x := ⟨_, rfl⟩
  rw [hx] at h32 ⊢
  have Hx := Lib.hid hx
  clear hx
  rintro e w1 (⟨f1, rfl, hs⟩ | ⟨f1, rfl, hs⟩)
  case inr =>
    have Hs := Lib.hid hs
    clear hs
    go_wp2
    exact ⟨rfl, .inr ⟨50, .few (by omega), rfl, Hs.out⟩⟩
  have H1 := Lib.hid hs
  obtain ⟨X, hX⟩ : ∃ X, x + 257 = X := ⟨_, rfl⟩
  have HX := Lib.hid hX
  have hw1 : IntKind.i64.wrap ((x : Int) + 257) = (X : Int) := by rw [IntWalk.i64_in _ (by omega)]; omega
  clear hX
  clear hs
  go_wp2_with fail
  refine Calls.mono (inum_any 5 (by decide) w1 H1.out.1) ?_
  have h32y : nb l (a + 5) 5 < 32 := nb_lt _ _ _
  obtain ⟨y, hy⟩ : ∃ y, nb l (a + 5) 5 = y := ⟨_, rfl⟩
  rw [hy] at h32y ⊢
  have Hy := Lib.hid hy
  clear hy
  rintro e w2 (⟨f2, rfl, hs⟩ | ⟨f2, rfl, hs⟩)
  case inr =>
    have Hs := Lib.hid hs
    clear hs
    go_wp2
    exact ⟨rfl, .inr ⟨50, .few (by omega), rfl, H1.out.2.throws Hs.out⟩⟩
  have H2 := Lib.hid (And.intro hs.1 (H1.out.2.trans hs.2))
  obtain ⟨Y, hY⟩ : ∃ Y, y + 1 = Y := ⟨_, rfl⟩
  have HY := Lib.hid hY
  have hw2 : IntKind.i64.wrap ((y : Int) + 1) = (Y : Int) := by rw [IntWalk.i64_in _ (by omega)]; omega
  clear hY
  clear hs H1
  go_wp2_with fail
  refine Calls.mono (inum_any 4 (by decide) w2 H2.out.1) ?_
  have h16 : nb l (a + 5 + 5) 4 < 16 := nb_lt _ _ _
  obtain ⟨z, hz⟩ : ∃ z, nb l (a + 5 + 5) 4 = z := ⟨_, rfl⟩
  rw [hz] at h16 ⊢
  have Hz := Lib.hid (show nb l (a + 10) 4 = z from hz)
  clear hz
  rintro e w3 (⟨f3, rfl, hs⟩ | ⟨f3, rfl, hs⟩)
  case inr =>
    have Hs := Lib.hid hs
    clear hs
    go_wp2
    exact ⟨rfl, .inr ⟨50, .few (by omega), rfl, H2.out.2.throws Hs.out⟩⟩
  have H3 := Lib.hid (show Sm w3 base S B sv ov uv l lim (a + 14) o ∧ Fr S B ov w ov w3 from ⟨hs.1, H2.out.2.trans hs.2⟩)
  obtain ⟨Z, hZ⟩ : ∃ Z, z + 4 = Z := ⟨_, rfl⟩
  have HZ := Lib.hid hZ
  have hw3 : IntKind.i64.wrap ((z : Int) + 4) = (Z : Int) := by rw [IntWalk.i64_in _ (by omega)]; omega
  have hZ19 : Z ≤ 19 := by omega
  clear hZ
  have hfit : a + 14 ≤ 8 * l.length := by omega
  clear hs H2 f1 f2 f3
  have hX31 : 257 ≤ X ∧ X ≤ 288 := by have := HX.out; omega
  have hY31 : 1 ≤ Y ∧ Y ≤ 32 := by have := HY.out; omega
  by_cases hm1 : 286 < X
  · have Hm := Lib.hid (InfDy.many (l := l) (a := a) hfit (.inl (by rw [Hx.out, HX.out]; exact hm1)))
    have d1 : decide (286 < X) = true := by simpa using hm1
    have d1' : decide ((X : Int) > 286) = true := by simp only [decide_eq_true_eq]; omega
    go_wp2
    exact ⟨rfl, .inr ⟨80, Hm.out, rfl, H3.out.2.turns⟩⟩
  have d1 : decide (286 < X) = false := by simpa using hm1
  have d1' : decide ((X : Int) > 286) = false := by simp only [decide_eq_false_iff_not]; omega
  by_cases hm2 : 30 < Y
  · have Hm := Lib.hid (InfDy.many (l := l) (a := a) hfit (.inr (by rw [Hy.out, HY.out]; exact hm2)))
    have d2 : decide (30 < Y) = true := by simpa using hm2
    have d2' : decide ((Y : Int) > 30) = true := by simp only [decide_eq_true_eq]; omega
    go_wp2
    exact ⟨rfl, .inr ⟨80, Hm.out, rfl, H3.out.2.turns⟩⟩
  have d2 : decide (30 < Y) = false := by simpa using hm2
  have d2' : decide ((Y : Int) > 30) = false := by simp only [decide_eq_false_iff_not]; omega
  have Hno := Lib.hid (show nb l a 5 + 257 ≤ 286 ∧ nb l (a + 5) 5 + 1 ≤ 30 by rw [Hx.out, Hy.out, HX.out, HY.out]; omega)
  have hwN : IntKind.i64.wrap ((X : Int) + (Y : Int)) = ((X + Y : Nat) : Int) := by rw [IntWalk.i64_in _ (by omega)]; omega
  obtain ⟨N, hN⟩ : ∃ N, X + Y = N := ⟨_, rfl⟩
  rw [hN] at hwN
  have HN := Lib.hid hN
  have hN' : 258 ≤ N ∧ N ≤ 316 ∧ X < N := by omega
  clear hN
  have eZ : nb l (a + 10) 4 + 4 = Z := by rw [Hz.out, HZ.out]
  have eX : nb l a 5 + 257 = X := by rw [Hx.out, HX.out]
  have eN : nb l a 5 + 257 + (nb l (a + 5) 5 + 1) = N := by rw [Hx.out, HX.out, Hy.out, HY.out, HN.out]
  have HE := Lib.hid (And.intro eZ (And.intro eX eN))
  clear eZ eX eN
  go_wp2_with fail
  refine Calls.mono (ilcode_any Z hZ19 w3 H3.out.1) ?_
  rintro e w4 (⟨tv, f4, hc4, rfl, ht4, hs4⟩ | ⟨f4, rfl, hs4⟩ | ⟨f4, hc4, rfl, hs4⟩)
  case inr.inl =>
    have Hs := Lib.hid hs4
    clear hs4
    go_wp2
    exact ⟨rfl, .inr ⟨50, .few2 hfit Hno.out (by rw [HE.out.1]; exact f4), rfl, H3.out.2.throws Hs.out⟩⟩
  case inr.inr =>
    have Hs := Lib.hid hs4
    have Hc4 := Lib.hid hc4
    clear hs4 hc4
    go_wp2
    have := InfDy.code (l := l) (a := a) hfit Hno.out (by rw [HE.out.1]; omega) (by rw [HE.out.1]; exact Hc4.out)
    rw [HE.out.1] at this
    exact ⟨rfl, .inr ⟨_, this, rfl, H3.out.2.throws Hs.out⟩⟩
  have Hc4 := Lib.hid hc4
  have Ht4 := Lib.hid ht4
  have H4 := Lib.hid (And.intro hs4.1 (H3.out.2.throws hs4.2))
  have hcl : (clL l (a + 14) Z).length = 19 := by simp [clL]
  have hf4 : a + 14 + 3 * Z ≤ 8 * l.length := by omega
  obtain ⟨T4, M4, n4, L4, F4, rfl, -⟩ := ht4
  clear hs4 hc4 f4 H3
  go_wp2_with fail
  refine Calls.mono (ilens_any _ (clL l (a + 14) Z) N (by omega) w4 H4.out.1 Ht4.out hcl) ?_
  rintro e w5 (⟨a', ls, v, hls, rfl, ho, hln, hs5⟩ | ⟨er, hls, rfl, hs5⟩)
  case inr =>
    have Hs := Lib.hid hs5
    have Hls := Lib.hid hls
    clear hs5 hls
    go_wp2
    have := InfDy.lens (l := l) (a := a) hfit Hno.out (by rw [HE.out.1]; exact hf4) (by rw [HE.out.1]; exact Hc4.out) er (by rw [HE.out.1, HE.out.2.2]; exact Hls.out)
    exact ⟨rfl, .inr ⟨_, this, rfl, H4.out.2.trans Hs.out⟩⟩
  have Hls := Lib.hid hls
  have H5 := Lib.hid (And.intro hs5.1 (H4.out.2.trans hs5.2))
  have hw45 := H4.out.2.size
  obtain ⟨g, c, rfl, hgb, hglt, hcell⟩ := owns_ptr ho (by omega)
  obtain ⟨p', c', e', hc1, hc2, -⟩ := (Rw8.own ho rfl).cells
  cases e'
  have hget : ∀ i (h : i < ls.length), w5.cell? ⟨g, i, none⟩ = some (u8v ls[i]) := fun i h => hcell i _ (by rw [List.getElem?_map, List.getElem?_eq_getElem h]; rfl)
  have c256 : w5.cell? ⟨g, 256, none⟩ = some (.int .u8 ((lq ls 256 : Nat) : Int)) := by
    have := hget 256 (by omega)
    rw [lq_at] at this
    exact this
  have rowA : Row enc8 1 w5 (.slice (some ⟨g, 0, none⟩) X c) (ls.take X) := by
    have h := row_of_cells (c := c) (xs := ls.take X) (off := 0) hglt (fun i hi => by
      have hi' : i < ls.length := by simp at hi; omega
      rw [Nat.zero_add, hget i hi', List.getElem_take]) (by simp; omega) hc2
    rw [List.length_take, Nat.min_eq_left (by omega)] at h
    exact h
  have rowD : Row enc8 1 w5 (.slice (some ⟨g, X, none⟩) (N - X) (c - X)) (ls.drop X) := by
    have h := row_of_cells (c := c - X) (xs := ls.drop X) (off := X) hglt (fun i hi => by
      have hi' : X + i < ls.length := by simp at hi; omega
      rw [hget (X + i) hi', List.getElem_drop]) (by simp; omega) (by omega)
    rw [List.length_drop, hln] at h
    exact h
  rw [hln]
  have hsA := slice_headC g N c X (by omega)
  have hsD := slice_tailC g N c X (by omega) (by omega)
  have RA := Lib.hid (rowA.below (Below.drew (Below.refl w5.heap.size w5)))
  have RD := Lib.hid (rowD.below (Below.drew (Below.refl w5.heap.size w5)))
  have Hln := Lib.hid hln
  obtain ⟨L, hL⟩ : ∃ L, lq ls 256 = L := ⟨_, rfl⟩
  rw [hL] at c256
  have HL := Lib.hid hL
  have hw5 : w4.heap.size ≤ w5.heap.size := hs5.2.size
  clear hls hs5 ho hget hcell rowA rowD hL hln hc1 hc2 hgb H4
  have hlast : ∀ er, (lq ls 256 = 0 ∧ er = 80 ∨ lq ls 256 ≠ 0 ∧ chk (ls.take X) ≠ 0 ∧ er = chk (ls.take X) ∨ lq ls 256 ≠ 0 ∧ chk (ls.take X) = 0 ∧ chk (ls.drop X) ≠ 0 ∧ er = chk (ls.drop X)) → InfDy l a 0 (.no er) := fun er h =>
    InfDy.last (l := l) (a := a) hfit Hno.out (by rw [HE.out.1]; exact hf4) (by rw [HE.out.1]; exact Hc4.out) a' ls (by rw [HE.out.1, HE.out.2.2]; exact Hls.out) er (by rw [HE.out.2.1]; exact h)
  have Hlast := Lib.hid hlast
  have hdone : (lq ls 256 ≠ 0 ∧ chk (ls.take X) = 0 ∧ chk (ls.drop X) = 0) → InfDy l a X (.go a' ls) := fun h => by
    have := InfDy.done (l := l) (a := a) hfit Hno.out (by rw [HE.out.1]; exact hf4) (by rw [HE.out.1]; exact Hc4.out) a' ls (by rw [HE.out.1, HE.out.2.2]; exact Hls.out) (by rw [HE.out.2.1]; exact h)
    rw [HE.out.2.1] at this
    exact this
  have Hdone := Lib.hid hdone
  clear hlast hdone
  by_cases hL0 : L = 0
  · have d0 : (((L : Nat) : Int) == 0) = true := by rw [beq_iff_eq]; omega
    go_wp2
    exact ⟨rfl, .inr ⟨80, Hlast.out 80 (.inl ⟨by rw [HL.out]; exact hL0, rfl⟩), rfl, H5.out.2⟩⟩
  have d0 : (((L : Nat) : Int) == 0) = false := by rw [beq_eq_false_iff_ne]; omega
  have HL0 := Lib.hid (show lq ls 256 ≠ 0 by rw [HL.out]; exact hL0)
  have hk : Hid (∀ i, KS S B ov i → i < w5.heap.size) := Lib.hid H5.out.1.k
  go_upto_region 7 with (fail)
  have hdr : Below w5.heap.size w5 w5.drew := Below.drew (Below.refl _ _)
  have H6 := Lib.hid (And.intro (H5.out.1.below hdr).1 (H5.out.2.trans (Turns.of_below' hdr)))
  by_cases hA : chk (ls.take X) = 0
  case neg =>
    have HA := Lib.hid hA
    clear hA
    refine wp_region_any (by kernel_rfl) ?_
    change wpAny _ _ _ _ _ _ _ (World.drew _)
    refine wpAny_take (i := 0) (v := ?_) rfl (by kernel_rfl) (by kernel_rfl) (by kernel_rfl) (fun _ _ _ h => h) (Or.inl ⟨by rfl, ?hy⟩) ?_
    case hy => (intro w'; go_simp; try with_reducible rfl)
    refine wpAny_take (i := 1) (v := ?_) rfl (by kernel_rfl) (by kernel_rfl) (by kernel_rfl) (fun _ _ _ h => h) (Or.inl ⟨by rfl, ?hy⟩) ?_
    case hy => (intro w'; go_simp; try with_reducible rfl)
    refine wpAny_take (i := 2) (v := ?_) rfl (by kernel_rfl) (by kernel_rfl) (by kernel_rfl) (fun _ _ _ h => h) (Or.inl ⟨by rfl, ?hy⟩) ?_
    case hy => (intro w'; go_simp; try with_reducible rfl)
    refine wpAny_take (i := 4) (v := ?_) rfl (by kernel_rfl) (by kernel_rfl) (by kernel_rfl) (fun _ _ _ h => h) (Or.inl ⟨by rfl, ?hy⟩) ?_
    case hy => (intro w'; go_simp; try with_reducible rfl)
    refine wpAny_take (i := 5) (v := ?_) rfl (by kernel_rfl) (by kernel_rfl) (by kernel_rfl) (fun _ _ _ h => h) (Or.inl ⟨by rfl, ?hy⟩) ?_
    case hy => (intro w'; go_simp; try with_reducible rfl)
    refine wpAny_take (i := 6) (v := ?_) rfl (by kernel_rfl) (by kernel_rfl) (by kernel_rfl) (fun _ _ _ h => h) (Or.inl ⟨by rfl, ?hy⟩) ?_
    case hy => (intro w'; go_simp; try with_reducible rfl)
    refine wpAny_ready (rs := [3]) (by kernel_rfl) (by simp) ?_
    refine AllReady.cons rfl (fun K hK => ?_) AllReady.nil
    go_simp
    refine (itable_bad _ _ _ RA.out HA.out).mono ?_
    rintro e w6 ⟨rfl, rfl⟩
    exact ⟨rfl, .inr ⟨_, Hlast.out _ (.inr (.inl ⟨HL0.out, HA.out, rfl⟩)), rfl, H6.out.2⟩⟩
  have HA := Lib.hid hA
  clear hA
  by_cases hD : chk (ls.drop X) = 0
  case neg =>
    have HD := Lib.hid hD
    clear hD
    refine wp_region_any (by kernel_rfl) ?_
    change wpAny _ _ _ _ _ _ _ (World.drew _)
    refine wpAny_take (i := 0) (v := ?_) rfl (by kernel_rfl) (by kernel_rfl) (by kernel_rfl) (fun _ _ _ h => h) (Or.inl ⟨by rfl, ?hy⟩) ?_
    case hy => (intro w'; go_simp; try with_reducible rfl)
    refine wpAny_take (i := 1) (v := ?_) rfl (by kernel_rfl) (by kernel_rfl) (by kernel_rfl) (fun _ _ _ h => h) (Or.inl ⟨by rfl, ?hy⟩) ?_
    case hy => (intro w'; go_simp; try with_reducible rfl)
    refine wpAny_take (i := 2) (v := ?_) rfl (by kernel_rfl) (by kernel_rfl) (by kernel_rfl) (fun _ _ _ h => h) (Or.inl ⟨by rfl, ?hy⟩) ?_
    case hy => (intro w'; go_simp; try with_reducible rfl)
    refine wpAny_take (i := 4) (v := ?_) rfl (by kernel_rfl) (by kernel_rfl) (by kernel_rfl) (fun _ _ _ h => h) (Or.inl ⟨by rfl, ?hy⟩) ?_
    case hy => (intro w'; go_simp; try with_reducible rfl)
    refine wpAny_take (i := 5) (v := ?_) rfl (by kernel_rfl) (by kernel_rfl) (by kernel_rfl) (fun _ _ _ h => h) (Or.inl ⟨by rfl, ?hy⟩) ?_
    case hy => (intro w'; go_simp; try with_reducible rfl)
    refine wpAny_take (i := 6) (v := ?_) rfl (by kernel_rfl) (by kernel_rfl) (by kernel_rfl) (fun _ _ _ h => h) (Or.inl ⟨by rfl, ?hy⟩) ?_
    case hy => (intro w'; go_simp; try with_reducible rfl)
    refine wpAny_ready (rs := [3]) (by kernel_rfl) (by simp) ?_
    refine AllReady.cons rfl (fun K hK => ?_) AllReady.nil
    go_simp
    refine (itable_ok _ _ _ RA.out HA.out).mono ?_
    rintro e w6 ⟨ta, rfl, hta, hb6⟩
    refine hK _ _ ?_
    clear hK K
    refine wpAny_ready (rs := [7]) (by kernel_rfl) (by simp) ?_
    refine AllReady.cons rfl (fun K hK => ?_) AllReady.nil
    go_simp
    refine (itable_bad _ _ _ (RD.out.below hb6) HD.out).mono ?_
    rintro e w7 ⟨rfl, rfl⟩
    exact ⟨rfl, .inr ⟨_, Hlast.out _ (.inr (.inr ⟨HL0.out, HA.out, HD.out, rfl⟩)), rfl, H6.out.2.trans (Turns.of_below' hb6)⟩⟩
  have HD := Lib.hid hD
  clear hD
  refine wp_region_any (by kernel_rfl) ?_
  change wpAny _ _ _ _ _ _ _ (World.drew _)
  refine wpAny_take (i := 0) (v := ?_) rfl (by kernel_rfl) (by kernel_rfl) (by kernel_rfl) (fun _ _ _ h => h) (Or.inl ⟨by rfl, ?hy⟩) ?_
  case hy => (intro w'; go_simp; try with_reducible rfl)
  refine wpAny_take (i := 1) (v := ?_) rfl (by kernel_rfl) (by kernel_rfl) (by kernel_rfl) (fun _ _ _ h => h) (Or.inl ⟨by rfl, ?hy⟩) ?_
  case hy => (intro w'; go_simp; try with_reducible rfl)
  refine wpAny_take (i := 2) (v := ?_) rfl (by kernel_rfl) (by kernel_rfl) (by kernel_rfl) (fun _ _ _ h => h) (Or.inl ⟨by rfl, ?hy⟩) ?_
  case hy => (intro w'; go_simp; try with_reducible rfl)
  refine wpAny_take (i := 4) (v := ?_) rfl (by kernel_rfl) (by kernel_rfl) (by kernel_rfl) (fun _ _ _ h => h) (Or.inl ⟨by rfl, ?hy⟩) ?_
  case hy => (intro w'; go_simp; try with_reducible rfl)
  refine wpAny_take (i := 5) (v := ?_) rfl (by kernel_rfl) (by kernel_rfl) (by kernel_rfl) (fun _ _ _ h => h) (Or.inl ⟨by rfl, ?hy⟩) ?_
  case hy => (intro w'; go_simp; try with_reducible rfl)
  refine wpAny_take (i := 6) (v := ?_) rfl (by kernel_rfl) (by kernel_rfl) (by kernel_rfl) (fun _ _ _ h => h) (Or.inl ⟨by rfl, ?hy⟩) ?_
  case hy => (intro w'; go_simp; try with_reducible rfl)
  refine wpAny_ready (rs := [3]) (by kernel_rfl) (by simp) ?_
  refine AllReady.cons rfl (fun K hK => ?_) AllReady.nil
  go_simp
  refine (itable_ok _ _ _ RA.out HA.out).mono ?_
  rintro e w6 ⟨ta, rfl, hta, hb6⟩
  have Hta := Lib.hid hta
  have Hb6 := Lib.hid hb6
  obtain ⟨T6, M6, n6, L6, F6, rfl, -⟩ := hta
  refine hK _ _ ?_
  clear hK K
  refine wpAny_ready (rs := [7]) (by kernel_rfl) (by simp) ?_
  refine AllReady.cons rfl (fun K hK => ?_) AllReady.nil
  go_simp
  refine (itable_ok _ _ _ (RD.out.below hb6) HD.out).mono ?_
  rintro e w7 ⟨td, rfl, htd, hb7⟩
  have Htd := Lib.hid htd
  have Hb7 := Lib.hid hb7
  obtain ⟨T7, M7, n7, L7, F7, rfl, -⟩ := htd
  clear hb6 hb7
  refine hK _ _ ?_
  clear hK K
  refine wpAny_ready (rs := [8]) (by kernel_rfl) (by simp) ?_
  refine AllReady.cons rfl (fun K hK => ?_) AllReady.nil
  go_simp
  refine hK _ _ ?_
  clear hK K
  refine wpAny_ready (rs := [9]) (by kernel_rfl) (by simp) ?_
  refine AllReady.cons rfl (fun K hK => ?_) AllReady.nil
  go_simp
  refine hK _ _ ?_
  clear hK K
  refine wpAny_ready (rs := [10]) (by kernel_rfl) (by simp) ?_
  refine AllReady.cons rfl (fun K hK => ?_) AllReady.nil
  go_simp
  refine hK _ _ ?_
  clear hK K
  refine ⟨by kernel_rfl, ?_⟩
  go_wp2
  go_ret
  have hb8 := Below.al1 w7 (.cells #[.pointer (some ⟨T6, 0, none⟩), .pointer (some ⟨T7, 0, none⟩)] 235)
  have hb78 := Below.thn Hb7.out hb8
  have hb68 := Below.thn Hb6.out hb78
  have hs67 : w5.heap.size ≤ w7.heap.size := Nat.le_trans (show w5.heap.size ≤ w6.heap.size from Hb6.out.size) Hb7.out.size
  have hln := Hln.out
  refine .inl ⟨X, a', ls, _, Hdone.out ⟨HL0.out, HA.out, HD.out⟩, by omega, rfl, ⟨w7.heap.size, _, _, rfl, World.alloc_heap_new _ _, fun h => by have := hk.out _ h; omega, ?_, ?_⟩, (H6.out.1.below hb68).1, H6.out.2.trans (Turns.of_below' hb68)⟩
  · exact Hta.out.go (Turns.of_below' hb78) (fun i _ h => hk.out i h)
  · exact Htd.out.go (Turns.of_below' hb8) (fun i _ h => Nat.lt_of_lt_of_le (hk.out i h) (show w5.heap.size ≤ w6.heap.size from Hb6.out.size))
theorem Ends.from {ov1 : Value} {w w1 : World} {R R' : InfSt → Prop} {e : Ending} {w' : World} (h : Ends base S B sv ov1 uv l lim w1 R e w') (hf : Fr S B ov w ov1 w1) (hR : ∀ r, R r → R' r) : Ends base S B sv ov uv l lim w R' e w' := by
  rcases h with ⟨a', o', ov', h1, h2, h3, h4⟩ | ⟨er, h1, h2, h3⟩
  · exact .inl ⟨a', o', ov', hR _ h1, h2, h3, hf.trans h4⟩
  · exact .inr ⟨er, hR _ h1, h2, hf.throws h3⟩
inductive InfDyn (l : List Nat) (lim a : Nat) (o : List Nat) : InfSt → Prop where
  | bad (e : Int) (h2 : InfDy l a 0 (.no e)) : InfDyn l lim a o (.no e)
  | dyn (n a' : Nat) (ls : List Nat) (h2 : InfDy l a n (.go a' ls)) (r : InfSt) (h3 : InfToks (ls.take n) (ls.drop n) l lim a' o r) : InfDyn l lim a o r
set_option maxRecDepth 20000 in
set_option maxHeartbeats 2000000 in
theorem idyn_any (w : World) (h : Sm w base S B sv ov uv l lim a o) :
    Calls Tryz.prog 150 #[.pointer (some ⟨S, 0, none⟩)] w (Ends base S B sv ov uv l lim w (InfDyn l lim a o)) := by
  have H := Lib.hid h
  clear h
  go_enter Tryz.func150, Tryz.ntmps150
  go_wp2_with fail
  refine Calls.mono (iown_any w H.out) ?_
  rintro e w1 (⟨n, a', ls, cv, hdy, hle, rfl, hc, hs⟩ | ⟨er, hdy, rfl, hs⟩)
  case inr =>
    have Hs := Lib.hid hs
    have Hdy := Lib.hid hdy
    clear hs hdy
    go_wp2
    exact ⟨rfl, .inr ⟨er, .bad er Hdy.out, rfl, Hs.out⟩⟩
  have Hs := Lib.hid hs
  have Hdy := Lib.hid hdy
  have Hc := Lib.hid hc
  obtain ⟨C, ta, td, rfl, -⟩ := hc
  clear hs hdy
  go_wp2_with fail
  refine Calls.mono (itok_any _ (ls.take n) (ls.drop n) w1 Hs.out.1 Hc.out (by simp; omega)) ?_
  intro e w2 he
  have he := he.from ⟨Hs.out.2, fun _ h => .inl h⟩ (R' := InfDyn l lim a o) (fun r hr => .dyn n a' ls Hdy.out r hr)
  have He := Lib.hid he
  rcases he with ⟨a2, o2, ov2, -, rfl, -⟩ | ⟨er, -, rfl, -⟩
  · go_wp2
    go_end0
    exact He.out
  · go_wp2
    exact ⟨rfl, He.out⟩
end

end Go.Proofs.YtoladolgmeanhaaGreat
