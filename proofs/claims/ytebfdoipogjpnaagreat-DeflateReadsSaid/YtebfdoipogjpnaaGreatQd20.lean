/- Several texts in one, each with its own head. -/
import Derived.Test.YtebfdoipogjpnaaGreatQd19
import Derived.Great.BuildSlice
/- inflate: lengths: all lengths that a code tells. -/
namespace Go.Proofs.YtebfdoipogjpnaaGreat
open Go.RowKit Go.Maps

def lenV (v : Value) : Nat := match v with
  | .slice _ k _ => k
  | _ => 0

theorem SvC.v_lt {x k c v : Nat} {ls : List Nat} (h : SvC x k c v ls) (hl : ∀ b ∈ ls, b < 256) : v < 256 ∧ 1 ≤ c ∧ c ≤ 11 ∧ k ≤ 7 := by
  rcases h with ⟨-, -, rfl, rfl, rfl⟩ | ⟨-, rfl, rfl, rfl⟩ | ⟨-, rfl, rfl, rfl⟩ | ⟨h, rfl, rfl, rfl⟩
  · exact ⟨getD_lt hl _, by decide, by decide, by decide⟩
  · exact ⟨by decide, by decide, by decide, by decide⟩
  · exact ⟨by decide, by decide, by decide, by decide⟩
  · exact ⟨by omega, by decide, by decide, by decide⟩

section
variable {base S B : Nat} {sv ov uv : Value} {l : List Nat} {lim a a0 : Nat} {o o0 : List Nat}

theorem Sm.k {w : World} (h : Sm w base S B sv ov uv l lim a o) : ∀ i, KS S B ov i → i < w.heap.size := fun i hi => by
  rcases hi with rfl | rfl | hi
  · exact h.size
  · exact h.rd.size
  · exact (h.out.lt _ hi).2

/-- Blocks turned that are newer than the stream. -/
theorem Sm.apart {w0 w w' : World} {T : Nat → Prop} (h0 : Sm w0 base S B sv ov uv l lim a0 o0) (h : Sm w base S B sv ov uv l lim a o) (hf : Turns (KS S B ov) w0 w) (ht : Turns T w w') (hT : ∀ i, T i → w0.heap.size ≤ i) :
    Sm w' base S B sv ov uv l lim a o ∧ Turns (KS S B ov) w0 w' := by
  have hS := h0.size
  have hB := h0.rd.size
  have ht' : Turns (KS S B ov) w0 w' := hf.trans' ht (fun i hi h => absurd (hT i h) (by omega))
  refine ⟨⟨(ht.block S h.size (fun h => by have := hT _ h; omega)).trans h.box, h.rd.turns ht (fun h => by have := hT _ h; omega) (fun k hk h => by have := hT _ h; have := h0.rd.row.lt k hk; omega),
    ht.owns h.out (fun k hk h => by have := hT _ h; have := (h0.out.lt k hk).2; omega), h0.us.imp id (fun hu => hu.go ht' (fun _ _ h => h)), h.ne, h.lo, h.le, h.by'⟩, ht'⟩

set_option maxRecDepth 20000 in
set_option maxHeartbeats 4000000 in
theorem ilens_any (tv : Value) (C : List Nat) (n : Nat) (hn : n ≤ 1000) (w : World) (h : Sm w base S B sv ov uv l lim a o) (ht : TblV w (KS S B ov) tv C) (hC : C.length = 19) :
    Calls Tryz.prog 175 #[.pointer (some ⟨S, 0, none⟩), tv, .int .i64 (n : Int)] w fun e w' =>
      (∃ (a' : Nat) (ls : List Nat) (v : Value), InfLs C l n a [] (.go a' ls) ∧ e = .returned v ∧ w'.ownsRow w.heap.size 5 1 v ls.length (ls.map u8v) ∧ ls.length = n ∧ Sm w' base S B sv ov uv l lim a' o ∧ Turns (KS S B ov) w w') ∨
      (∃ er, InfLs C l n a [] (.no er) ∧ e = thrown er ∧ Turns (KS S B ov) w w') := by
  have H := Lib.hid h
  have Ht := Lib.hid ht
  obtain ⟨T, M, nn, L, F, rfl, -⟩ := ht
  obtain ⟨i0, hi0, hz0, hz1, hz2⟩ := info_parts u8_info
  clear h
  go_enter Tryz.func175, Tryz.ntmps175
  go_wp2_with fail
  go_loopw [7] (fun lv wr => ∃ (a1 : Nat) (ls : List Nat), Hid (wr.ownsRow w.heap.size 5 1 lv ls.length (ls.map u8v)) ∧ ls.length ≤ n ∧ Hid (Sm wr base S B sv ov uv l lim a1 o) ∧ Hid (Turns (KS S B ov) w wr) ∧ Hid (∀ b ∈ ls, b < 256) ∧ Hid (∀ r, InfLs C l n a1 ls r → InfLs C l n a [] r))
    (fun lv _ => n - lenV lv)
  case atStart => exact ⟨a, [], Lib.hid (World.ownsRow_nil _ _ _ _), Nat.zero_le _, H, Lib.hid (Turns.refl _ _), Lib.hid (fun _ h => by cases h), Lib.hid (fun _ h => h)⟩
  case round =>
    obtain ⟨a1, ls, HO, hle, HS, HT, HB, HR⟩ := hrel
    have hk := H.out.k
    have hw := HT.out.size
    obtain ⟨p, c, rfl⟩ := owns_slice HO.out
    have Hap : Hid (∀ k, (Value.slice p ls.length c).ownBlock = some k → ¬ KS S B ov k) := Lib.hid (fun k hk' h => by have := (HO.out.lt k hk').1; have := hk k h; omega)
    have Htb := Lib.hid (Ht.out.go HT.out (fun _ _ h => h))
    by_cases hlt : ls.length < n
    · have d0 : decide (((ls.length : Nat) : Int) < (n : Int)) = true := by simp only [decide_eq_true_eq]; omega
      go_wp2_with fail
      refine Calls.mono (isev_any _ _ C ls wr HS.out Htb.out hC (Rw8.own HO.out rfl) Hap.out (by omega)) ?_
      rintro e w1 (⟨x, s, k, cc, v, hsy, hsv, hfit, rfl, hs⟩ | ⟨er, her, rfl, hs⟩)
      case inr =>
        have Hs := Lib.hid hs
        have Her := Lib.hid (HR.out _ (.no a1 ls er hlt (her n)))
        clear hs her
        go_wp2
        exact ⟨rfl, .inr ⟨er, Her.out, rfl, HT.out.trans Hs.out⟩⟩
      have hv := hsv.v_lt HB.out
      have hnb : nb l (a1 + s) k < 128 := Nat.lt_of_lt_of_le (nb_lt _ _ _) (Nat.pow_le_pow_right (n := 2) (j := 7) (by decide) hv.2.2.2)
      obtain ⟨t, htm⟩ : ∃ t, cc + nb l (a1 + s) k = t := ⟨_, rfl⟩
      rw [htm]
      have htb : 1 ≤ t ∧ t ≤ 1000 := by omega
      have Htm := Lib.hid htm
      have Hsy := Lib.hid (And.intro hsy hsv)
      have HS1 := Lib.hid hs.1
      have HT1 := Lib.hid (HT.out.trans hs.2.turns)
      have HO1 := Lib.hid (hs.2.turns.owns HO.out (fun k hk e => Hap.out k hk e))
      have hw1 : IntKind.i64.wrap ((n : Int) - ((ls.length : Nat) : Int)) = (n : Int) - ((ls.length : Nat) : Int) := IntWalk.i64_in _ (by omega)
      clear hs hsy hsv htm hnb hk
      by_cases hmany : n < ls.length + t
      · have d1 : decide ((n : Int) - ((ls.length : Nat) : Int) < (t : Int)) = true := by simp only [decide_eq_true_eq]; omega
        go_wp2
        exact ⟨rfl, .inr ⟨80, HR.out _ (.no a1 ls 80 hlt (.many x s k cc v Hsy.out.1 Hsy.out.2 hfit (by rw [Htm.out]; exact hmany))), rfl, HT1.out⟩⟩
      have d1 : decide ((n : Int) - ((ls.length : Nat) : Int) < (t : Int)) = false := by simp only [decide_eq_false_iff_not]; omega
      go_wp2_with fail
      refine Calls.mono (irun_any v t hv.1 htb.1 htb.2 w1) ?_
      rintro e w2 ⟨rv, rfl, ho, hb⟩
      rw [rep_row] at ho
      have hrv : Rw8 w2 rv (List.replicate t v) := Rw8.own ho (by simp)
      obtain ⟨p2, c2, rfl, -, -, hsrc⟩ := hrv.src enc8_len (by decide)
      rw [flat8, List.length_replicate] at *
      have HO2 := Lib.hid ((Turns.of_below' (T := fun _ => False) hb).owns HO1.out (fun _ _ h => h))
      have HS2 := Lib.hid (HS1.out.below hb).1
      have HT2 := Lib.hid (HT1.out.trans (Turns.of_below' hb))
      have Hsrc := Lib.hid hsrc
      have hws : w.heap.size ≤ w2.heap.size := HT2.out.size
      clear ho hrv hsrc hb
      go_wp2_with (at_builtin; refine wpList_append_mine w2 rfl (.tmp 28) (.tmp 31) 22 rfl _ 5 i0 _ 1 1 Tryz.underlying22 hi0 hz0 hz1 hz2 rfl (by decide) (.slice p ls.length c) ls.length (ls.map u8v) rfl HO2.out p2 t c2 ((List.replicate t v).map u8v) rfl (by simp) Hsrc.out (one8 _) ?n3 ?n4 hws ?_)
      case n3 => simp only [maxLen]; omega
      case n4 => omega
      intro v3 w3 ho3 hg3 _
      have hgt : Turns (fun k => (Value.slice p ls.length c).ownBlock = some k) w2 w3 := Turns.of_grown hg3 (fun _ h => h)
      have hap := Sm.apart H.out HS2.out HT2.out hgt (fun k hk => (HO2.out.lt k hk).1)
      have hll : (ls ++ List.replicate t v).length = ls.length + t := by simp
      have Hll := Lib.hid hll
      have HO3 : Hid (w3.ownsRow w.heap.size 5 1 v3 (ls ++ List.replicate t v).length ((ls ++ List.replicate t v).map u8v)) := Lib.hid (by rw [hll, List.map_append, List.map_replicate]; exact ho3)
      have HS3 := Lib.hid hap.1
      have HT3 := Lib.hid hap.2
      have HB3 : Hid (∀ b ∈ ls ++ List.replicate t v, b < 256) := Lib.hid (fun b hb => by
        rcases List.mem_append.1 hb with hb | hb
        · exact HB.out b hb
        · rcases List.mem_replicate.1 hb with ⟨-, rfl⟩; exact hv.1)
      have HR3 : Hid (∀ r, InfLs C l n (a1 + s + k) (ls ++ List.replicate t v) r → InfLs C l n a [] r) := Lib.hid (fun r hr => HR.out r (.more a1 _ ls _ r hlt (by
        have := InfSv.go (n := n) x s k cc v Hsy.out.1 Hsy.out.2 hfit (by rw [Htm.out]; omega)
        rw [Htm.out] at this
        exact this) hr))
      have hv3 : lenV v3 = ls.length + t := by obtain ⟨q, cq, rfl⟩ := owns_slice ho3; rfl
      have Hv3 := Lib.hid hv3
      clear ho3 hg3 hgt hap hll hv3
      go_wp2
      go_roundw
      case rel => exact ⟨a1 + s + k, _, HO3, by rw [Hll.out]; omega, HS3, HT3, HB3, HR3⟩
      case measure =>
        show n - lenV v3 < n - ls.length
        rw [Hv3.out]; omega
    · have d0 : decide (((ls.length : Nat) : Int) < (n : Int)) = false := by simp only [decide_eq_false_iff_not]; omega
      go_wp2
      go_ret
      exact .inl ⟨a1, ls, _, HR.out _ (.fin a1 ls (by omega)), rfl, HO.out, by omega, HS.out, HT.out⟩
end

end Go.Proofs.YtebfdoipogjpnaaGreat

/- inflate: lengthsCode: the code by which lengths are told. -/
namespace Go.Proofs.YtebfdoipogjpnaaGreat
open Go.RowKit Go.Maps

section
variable {base S B : Nat} {sv ov uv : Value} {l : List Nat} {lim a a0 : Nat} {o o0 : List Nat}

theorem ordL_at : ∀ i, i < 19 → ordL.getD i 0 < 19 := by decide
theorem clF_lt (l : List Nat) (a : Nat) : ∀ k i, clF l a k i < 256
  | 0, i => by show (0 : Nat) < 256; decide
  | k + 1, i => by
    unfold clF
    split
    · exact Nat.lt_of_lt_of_le (nb_lt _ _ _) (by decide)
    · exact clF_lt l a k i
theorem lensRow_setA (f : Nat → Nat) {n x : Nat} (v : Nat) (_hx : x < n) : (lensRow f n).toArray.setIfInBounds x (u8v v) = (lensRow (fun i => if i = x then v else f i) n).toArray := by
  apply Array.ext
  · simp [lensRow]
  · intro i h1 h2
    have hi : i < n := by simpa [lensRow] using h2
    rw [Array.getElem_setIfInBounds (by simpa [lensRow] using hi)]
    by_cases e : x = i
    · subst e
      simp [lensRow]
    · have e' : ¬ i = x := fun h => e h.symm
      simp [lensRow, e, e']

/-- How a method ends that makes a table. -/
def TabEnds (base S B : Nat) (sv ov uv : Value) (l : List Nat) (lim a' : Nat) (o ls : List Nat) (w : World) (few : Prop) (e : Ending) (w' : World) : Prop :=
  (∃ tv, ¬ few ∧ chk ls = 0 ∧ e = .returned tv ∧ TblV w' (KS S B ov) tv ls ∧ Sm w' base S B sv ov uv l lim a' o ∧ Turns (KS S B ov) w w') ∨
  (few ∧ e = thrown 50 ∧ Turns (KS S B ov) w w') ∨ (¬ few ∧ chk ls ≠ 0 ∧ e = thrown (chk ls) ∧ Turns (KS S B ov) w w')

set_option maxRecDepth 20000 in
set_option maxHeartbeats 4000000 in
theorem ilcode_any (n : Nat) (hn : n ≤ 19) (w : World) (h : Sm w base S B sv ov uv l lim a o) :
    Calls Tryz.prog 176 #[.pointer (some ⟨S, 0, none⟩), .int .i64 (n : Int)] w (TabEnds base S B sv ov uv l lim (a + 3 * n) o (clL l a n) w (8 * l.length < a + 3 * n)) := by
  have H := Lib.hid h
  clear h
  go_enter Tryz.func176, Tryz.ntmps176
  go_upto_region 1 with (fail)
  refine wp_region_lit ?_
  refine wpList_buildTo rfl 262 _ rfl (some 9) rfl ((ordL.map u8v).toArray) (by kernel_rfl) ?_
  refine wpList_plain rfl fun K hK => ?_
  go_simp
  refine hK _ _ ?_
  clear hK K
  have hz := World.alloc_heap_new w (.cells #[.int .u8 0, .int .u8 0, .int .u8 0, .int .u8 0, .int .u8 0, .int .u8 0, .int .u8 0, .int .u8 0, .int .u8 0, .int .u8 0, .int .u8 0, .int .u8 0, .int .u8 0, .int .u8 0, .int .u8 0, .int .u8 0, .int .u8 0, .int .u8 0, .int .u8 0] 262)
  refine wpList_store_rowTo rfl 262 _ _ rfl rfl w.heap.size ((ordL.map u8v).toArray) rfl rfl 262 _ hz (by kernel_rfl) (by kernel_rfl) (by kernel_rfl) ?_
  generalize hw1 : World.setRow _ w.heap.size _ = w1
  have ho1 : w1.heap[w.heap.size]? = some (.cells (ordL.map u8v).toArray 262) := by rw [← hw1]; exact setRow_heap _ _ _ _ _ _ hz
  have hb1 : Below w.heap.size w w1 := by rw [← hw1]; exact below_setRow (Below.al1 _ _) (Nat.le_refl _) _
  clear hw1 hz
  go_upto_region 3 with (fail)
  have hz2 : (w1.alloc (.cells (lensRow (clF l a 0) 19).toArray 262)).heap[w1.heap.size]? = some (.cells (lensRow (clF l a 0) 19).toArray 262) := World.alloc_heap_new _ _
  have hb2 : Below w.heap.size w (w1.alloc (.cells (lensRow (clF l a 0) 19).toArray 262)) := Below.thn hb1 (Below.al1 _ _)
  have hoz : w.heap.size < w1.heap.size := lt_heap ho1
  have ho2 : (w1.alloc (.cells (lensRow (clF l a 0) 19).toArray 262)).heap[w.heap.size]? = some (.cells (ordL.map u8v).toArray 262) := ((Below.al1 w1 _).block _ hoz).trans ho1
  change Code.wp _ _ _ _ (w1.alloc (.cells (lensRow (clF l a 0) 19).toArray 262))
  generalize w1.alloc _ = W at *
  obtain ⟨Z, hZ⟩ : ∃ Z, w1.heap.size = Z := ⟨_, rfl⟩
  obtain ⟨O, hO⟩ : ∃ O, w.heap.size = O := ⟨_, rfl⟩
  rw [hZ] at hz2 hoz ⊢
  rw [hO] at ho2 hoz ⊢
  have HK : Hid (∀ i, KS S B ov i → i < O) := Lib.hid (by rw [← hO]; exact H.out.k)
  have HO := Lib.hid hO
  have H1 := Lib.hid (And.intro (H.out.below hb2).1 (Turns.of_below' (T := KS S B ov) hb2))
  have Hz := Lib.hid hz2
  have Ho := Lib.hid ho2
  have hn1 : (n : Int) ≤ 19 := by omega
  have hn0 : (0 : Int) ≤ (n : Int) := by omega
  clear hz2 hb2 ho2 hb1 ho1 hZ hO
  go_wp2_with fail
  go_loopw [13] (fun iv wr => ∃ i : Nat, iv = .int .i64 (i : Int) ∧ i ≤ n ∧ Hid (Sm wr base S B sv ov uv l lim (a + 3 * i) o ∧ Turns (KS S B ov) w wr) ∧ Hid (wr.heap[Z]? = some (.cells (lensRow (clF l a i) 19).toArray 262)) ∧ Hid (wr.heap[O]? = some (.cells (ordL.map u8v).toArray 262))) (fun iv _ => n - (intOf iv).toNat)
  case atStart => exact ⟨0, rfl, Nat.zero_le _, H1, Hz, Ho⟩
  case round =>
    obtain ⟨i, rfl, hi, HS, HZ, HOr⟩ := hrel
    by_cases hin : i < n
    · have d0 : decide ((i : Int) < (n : Int)) = true := by simp; omega
      have hx := ordL_at i (by omega)
      have hcell : wr.cell? ⟨O, i, none⟩ = some (.int .u8 ((ordL.getD i 0 : Nat) : Int)) := by
        have hl : i < ordL.length := by show i < 19; omega
        rw [cell_heap HOr.out (i := i) (v := u8v (ordL.getD i 0)) (by rw [List.getElem?_toArray, List.getElem?_map, List.getD_eq_getElem?_getD, List.getElem?_eq_getElem hl]; rfl)]
        rfl
      obtain ⟨x, hxe⟩ : ∃ x, ordL.getD i 0 = x := ⟨_, rfl⟩
      rw [hxe] at hcell hx
      have Hx := Lib.hid hxe
      have j0 : (0 : Int) ≤ (i : Int) := by omega
      have j1 : (i : Int) < (n : Int) := by omega
      clear hxe
      go_wp2_with fail
      refine Calls.mono (inum_any 3 (by decide) wr HS.out.1) ?_
      rintro e w2 (⟨h1, rfl, hs⟩ | ⟨h1, rfl, hs⟩)
      case inr =>
        have Hs := Lib.hid hs
        clear hs
        go_wp2
        exact ⟨rfl, .inr (.inl ⟨by omega, rfl, HS.out.2.trans Hs.out⟩)⟩
      have hz8 : nb l (a + 3 * i) 3 < 8 := nb_lt _ _ _
      obtain ⟨z, hz⟩ : ∃ z, nb l (a + 3 * i) 3 = z := ⟨_, rfl⟩
      rw [hz] at hz8 ⊢
      have Hze := Lib.hid hz
      have hwz : IntKind.u8.wrap (z : Int) = (z : Int) := IntWalk.u8_in _ (by omega)
      have HS2 := Lib.hid (And.intro hs.1 (HS.out.2.trans hs.2.turns))
      have hZ2 : w2.heap[Z]? = some (.cells (lensRow (clF l a i) 19).toArray 262) := (hs.2.turns.block Z (lt_heap HZ.out) (fun h => by have := HK.out Z h; omega)).trans HZ.out
      have HO2 : Hid (w2.heap[O]? = some (.cells (ordL.map u8v).toArray 262)) := Lib.hid ((hs.2.turns.block O (lt_heap HOr.out) (fun h => by have := HK.out O h; omega)).trans HOr.out)
      have hc2 : w2.cell? ⟨Z, x, none⟩ = some (u8v (clF l a i x)) := cell_heap hZ2 (by rw [List.getElem?_toArray, lensRow_at _ hx])
      have hf2 : w2.frozen? ⟨Z, x, none⟩ = false := by simp [World.frozen?, hZ2]
      have hset : (w2.setCell ⟨Z, x, none⟩ (u8v z)).heap[Z]? = some (.cells (lensRow (clF l a (i + 1)) 19).toArray 262) := by
        rw [setCell_eq_setRow w2 Z x _ _ _ _ hZ2, setRow_heap w2 Z _ _ _ _ hZ2, lensRow_setA _ _ hx]
        have : (fun k => if k = x then z else clF l a i k) = clF l a (i + 1) := by
          funext k
          show _ = if k = ordL.getD i 0 then nb l (a + 3 * i) 3 else clF l a i k
          rw [Hx.out, Hze.out]
        rw [this]
      have hset2 : (w2.setCell ⟨Z, x, none⟩ (u8v z)).heap[O]? = some (.cells (ordL.map u8v).toArray 262) := (Below.heap_setCell _ _ _ O (fun h => by simp only at h; omega)).trans HO2.out
      have hap := Sm.apart H.out HS2.out.1 HS2.out.2 (T := fun k => k = Z) (Turns.set (T := fun k => k = Z) (p := ⟨Z, x, none⟩) (Turns.refl _ w2) rfl (u8v z)) (fun k hk => by cases hk; have := HO.out; omega)
      have x0 : (0 : Int) ≤ (x : Int) := by omega
      have x1 : (x : Int) < 19 := by omega
      unfold u8v at hc2 hset hset2 hap
      have Hset := Lib.hid (And.intro hset (And.intro hset2 hap))
      clear hs hz hZ2 hset hset2 hap
      go_wp2
      go_roundw
      case rel => exact ⟨i + 1, by go_num, by omega, Lib.hid ⟨by rw [show a + 3 * (i + 1) = a + 3 * i + 3 by omega]; exact Hset.out.2.2.1, Hset.out.2.2.2⟩, Lib.hid Hset.out.1, Lib.hid Hset.out.2.1⟩
      case measure => simp [intOf]; omega
    · obtain rfl : i = n := by omega
      have hpos := HS.out.1.rd.pos
      have hcl : (clL l a i).length = 19 := by simp [clL]
      have hrow : Row enc8 1 wr (.slice (some ⟨Z, 0, none⟩) 19 19) (clL l a i) := by
        refine ⟨some ⟨Z, 0, none⟩, 19, by rw [hcl], by omega, by decide, .inr ⟨Z, 0, rfl, lt_heap HZ.out, fun k x hx j u hu => ?_⟩⟩
        cases j with
        | succ j => cases hu
        | zero =>
          cases hu
          have hk : k < 19 := by rw [← hcl]; exact (List.getElem?_eq_some_iff.1 hx).1
          rw [Nat.mul_one, Nat.zero_add, Nat.add_zero]
          refine cell_heap HZ.out ?_
          rw [List.getElem?_toArray, lensRow_at _ hk]
          have : clF l a i k = x := by
            unfold clL at hx
            rw [List.getElem?_map, List.getElem?_range hk] at hx
            simpa using hx
          rw [this]
      have Hrow := Lib.hid hrow
      clear hrow hcl
      by_cases hc : chk (clL l a i) = 0
      · have Hc := Lib.hid hc
        clear hc
        go_wp2_with fail
        refine Calls.mono (itable_ok _ _ wr Hrow.out Hc.out) ?_
        rintro e w2 ⟨tv, rfl, ht, hb⟩
        have Ht := Lib.hid (ht.go (K' := KS S B ov) (Turns.refl _ _) (fun k _ hk => by have := HK.out k hk; have := HS.out.2.size; have := HO.out; omega))
        have Hb := Lib.hid hb
        clear ht hb
        go_wp2
        go_ret
        exact .inl ⟨_, by omega, Hc.out, rfl, Ht.out, (HS.out.1.below Hb.out).1, HS.out.2.trans (Turns.of_below' Hb.out)⟩
      · have Hc := Lib.hid hc
        clear hc
        go_wp2_with fail
        refine Calls.mono (itable_bad _ _ wr Hrow.out Hc.out) ?_
        rintro e w2 ⟨rfl, rfl⟩
        go_wp2
        exact ⟨rfl, .inr (.inr ⟨by omega, Hc.out, rfl, HS.out.2⟩)⟩
end

end Go.Proofs.YtebfdoipogjpnaaGreat
