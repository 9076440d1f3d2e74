/- Several texts in one, each with its own head. -/
import Derived.Test.YtdcmalbbijchiaaZq24
import Derived.Laws.CopyOwn
import Derived.Laws.Bits64b
import Derived.Deep.RegionLaw
import Derived.Lib.AppendZeros
/- inflate: table (New, or its error thrown), and run: a length so many times (slices.Repeat of one byte, walked). -/
namespace Go.Proofs.Ytdcmalbbijchiaa
open Go.RowKit Go.Maps

set_option maxHeartbeats 1000000 in
theorem itable_ok (ls : List Nat) (v : Value) (w : World) (hv : Row enc8 1 w v ls) (hc : chk ls = 0) :
    Calls Try.prog 64 #[v] w fun e w' => ∃ tv, e = .returned tv ∧ TblV w' (fun i => i < w.heap.size) tv ls ∧ Below w.heap.size w w' := by
  have Hv := Lib.hid hv
  have Hc := Lib.hid hc
  obtain ⟨p, c, rfl, -⟩ := hv
  clear hc
  go_enter Try.func64, Try.ntmps64
  go_wp2_with fail
  refine Calls.mono (new_ok ls _ w Hv.out Hc.out (apt_chk Hc.out)) ?_
  rintro e w1 ⟨T, rfl, ht, hb⟩
  have Ht := Lib.hid ht
  have Hb := Lib.hid hb
  clear ht hb
  go_wp2_with fail
  refine Calls.mono (icheck_ok _) ?_
  rintro e w2 ⟨rfl, rfl⟩
  go_wp2
  go_ret
  obtain ⟨M, n, L, F, t1, t2, t3, t4, t5⟩ := Ht.out.ex
  refine ⟨_, rfl, ⟨T, M, n, L, F, rfl, ⟨⟨t1, t2⟩, t3, t4, ?_, fun h => absurd h (by have := Ht.out.ge; omega), fun h => absurd h (by omega)⟩⟩, Hb.out⟩
  rcases t4.le with h | ⟨i, i1, i2, i3⟩
  · omega
  · rw [← i3]; exact (chk_zero Hc.out).2.1 i i1
set_option maxHeartbeats 1000000 in
theorem itable_bad (ls : List Nat) (v : Value) (w : World) (hv : Row enc8 1 w v ls) (hc : chk ls ≠ 0) :
    Calls Try.prog 64 #[v] w fun e w' => e = thrown (chk ls) ∧ w' = w := by
  have Hv := Lib.hid hv
  have Hc := Lib.hid hc
  obtain ⟨p, c, rfl, -⟩ := hv
  clear hc
  go_enter Try.func64, Try.ntmps64
  go_wp2_with fail
  refine Calls.mono (new_bad ls _ w Hv.out Hc.out) ?_
  rintro e w1 ⟨rfl, rfl⟩
  obtain ⟨r, hr⟩ : ∃ r, chk ls = r := ⟨_, rfl⟩
  have Hr := Lib.hid (hr ▸ Hc.out : r ≠ 0)
  have Hrr := Lib.hid hr
  rw [hr]
  clear hr
  go_wp2_with fail
  refine Calls.mono (icheck_no r Hr.out _) ?_
  rintro e w2 ⟨rfl, rfl⟩
  go_wp2
  exact ⟨rfl, by rw [Hrr.out], rfl⟩

set_option maxHeartbeats 1000000 in
theorem imul64 (n : Nat) (hn : n < 4294967296) (w : World) :
    Calls Try.prog 87 #[.int .u64 1, .int .u64 (n : Int)] w fun e w' => e = .returned (.tuple #[.int .u64 0, .int .u64 (n : Int)]) ∧ w' = w := by
  have h1 : bits .and .u64 1 4294967295 = 1 := by decide
  have h0 : bits .and .u64 0 4294967295 = 0 := by decide
  have h2 : bits .and .u64 (n : Int) 4294967295 = (n : Int) := by
    have h := bits_and_u64_nat n 4294967295 (by omega) (by omega)
    have e : n &&& 4294967295 = n % 4294967296 := Nat.and_two_pow_sub_one_eq_mod n 32
    rw [e] at h
    rw [show ((4294967295 : Nat) : Int) = 4294967295 from rfl] at h
    rw [h]; omega
  have h3 : (n : Int) / 4294967296 = 0 := by omega
  have h4 : IntKind.u64.wrap (n : Int) = (n : Int) := by rw [IntKind.wrap_u64]; omega
  go_enter Try.func87, Try.ntmps87
  go_wp2
  go_ret2
  exact ⟨rfl, rfl⟩
set_option maxHeartbeats 1000000 in
theorem imul (n : Nat) (hn : n < 4294967296) (w : World) :
    Calls Try.prog 83 #[.int .u64 1, .int .u64 (n : Int)] w fun e w' => e = .returned (.tuple #[.int .u64 0, .int .u64 (n : Int)]) ∧ w' = w := by
  go_enter Try.func83, Try.ntmps83
  go_wp2_with fail
  refine Calls.mono (imul64 n hn _) ?_
  rintro e w2 ⟨rfl, rfl⟩
  go_wp2
  go_ret2
  exact ⟨rfl, rfl⟩

/-- The row while it is filled: so many bytes x, then noughts. -/
def filled (x m n : Nat) : List Value := List.replicate m (u8v x) ++ List.replicate (n - m) (u8v 0)
theorem filled_len {x m n : Nat} (h : m ≤ n) : (filled x m n).length = n := by simp [filled]; omega
theorem filled_all (x n : Nat) : filled x n n = List.replicate n (u8v x) := by simp [filled]
theorem filled_zero (x n : Nat) : filled x 0 n = lensRow (fun _ => 0) n := by
  simp only [filled, List.replicate_zero, List.nil_append, Nat.sub_zero, lensRow]
  rw [List.map_const', List.length_range]
theorem filled_at {x m n i : Nat} (h : i < m) : (filled x m n)[i]? = some (u8v x) := by
  rw [filled, List.getElem?_append_left (by simpa using h), List.getElem?_replicate, if_pos h]
theorem filled_splice {x m n k : Nat} (h : m + k ≤ n) : splice (filled x m n) m (List.replicate k (u8v x)) = filled x (m + k) n := by
  have h1 : (filled x m n).take m = List.replicate m (u8v x) := by
    rw [filled, List.take_append_of_le_length (by simp)]; simp
  have h2 : (filled x m n).drop (m + k) = List.replicate (n - (m + k)) (u8v 0) := by
    rw [filled, List.drop_append, List.drop_eq_nil_of_le (by simp), List.nil_append, List.drop_replicate, List.length_replicate]
    congr 1; omega
  rw [splice, List.length_replicate, h1, h2, ← List.append_assoc, List.replicate_append_replicate]
  rfl

/-- copy within a row that is filled: k bytes more. -/
theorem copy_filled {w w0 : World} {G x m k n : Nat} {ad : Addr} {sLen sCap dLen dCap : Nat} (hg : w.heap[G]? = some (.cells (filled x m n).toArray 5 (0, 0))) (hb : Below w0.heap.size w0 w) (hG : w0.heap.size ≤ G)
    (hk : k = Nat.min sLen dLen) (hmk : m + k ≤ n) (hsrc : ∀ j, j < k → w.cell? (ad.add j) = some (u8v x)) :
    ∃ w', (Builtin.copy_ #[23, 23] 3 #[.slice (some ⟨G, m, none⟩) dLen dCap, .slice (some ad) sLen sCap]).run Try.prog w = .ok (goInt k) w' ∧ w'.heap[G]? = some (.cells (filled x (m + k) n).toArray 5 (0, 0)) ∧ Below w0.heap.size w0 w' := by
  have h := run_copy_row (P := Try.prog) w 23 23 3 5 G m dLen dCap ad sLen sCap (filled x m n).toArray 5 (List.replicate k (u8v x)) Try.underlying23 (by kernel_rfl) hg (by rw [List.length_replicate]; exact hk)
    (fun j v hj => by
      rw [List.getElem?_replicate] at hj
      split at hj
      · cases hj; exact hsrc j (by assumption)
      · cases hj) (by rw [List.length_replicate, List.size_toArray, filled_len (by omega)]; exact hmk) (fun v hv => by rcases List.mem_replicate.1 hv with ⟨-, rfl⟩; rfl)
  rw [List.length_replicate] at h
  refine ⟨_, h, ?_, below_setRow hb hG _⟩
  rw [setRow_heap w G _ _ 5 _ hg, ← filled_splice hmk, splice, List.length_replicate, List.append_assoc]

theorem slice_tail8 (G n m : Nat) (h : m < n) (w : World) : (Instr.slice 23 (.slice (some ⟨G, 0, none⟩) n n) (some (.int .i64 (m : Int))) none none).run Try.prog w = .ok (.slice (some ⟨G, m, none⟩) (n - m) (n - m)) w := by
  obtain ⟨i, hi, hz, hs, hb⟩ := info_parts u8_info
  rw [run_slice_l w 23 (some ⟨G, 0, none⟩) n n (by kernel_rfl) .i64 (m : Int) (by omega) (by omega), Int.toNat_natCast]
  have : ¬ n = m := by omega
  simp [go_sem, this]
theorem slice_head8 (G n m : Nat) (h : m ≤ n) (w : World) : (Instr.slice 23 (.slice (some ⟨G, 0, none⟩) n n) none (some (.int .i64 (m : Int))) none).run Try.prog w = .ok (.slice (some ⟨G, 0, none⟩) m n) w := by
  obtain ⟨i, hi, hz, hs, hb⟩ := info_parts u8_info
  rw [run_slice_h w 23 (some ⟨G, 0, none⟩) n n (by kernel_rfl) .i64 (m : Int) (by omega) (by omega), Int.toNat_natCast]
  simp [go_sem]

set_option maxRecDepth 20000 in
set_option maxHeartbeats 2000000 in
theorem srep_any (b x n : Nat) (_hx : x < 256) (h1 : 1 ≤ n) (hn : n ≤ 1000) (w : World) (hb : w.cell? ⟨b, 0, none⟩ = some (.int .u8 (x : Int))) :
    Calls Try.prog 76 #[.slice (some ⟨b, 0, none⟩) 1 1, .int .i64 (n : Int)] w fun e w' => ∃ v, e = .returned v ∧ w'.ownsRow w.heap.size 5 1 v n (List.replicate n (u8v x)) ∧ Below w.heap.size w w' := by
  have hm := fun w : World => make_u8 n (by omega) w
  have d0 : decide ((n : Int) < 0) = false := by simp
  have d1 : decide ((n : Int) > 9223372036854775807) = false := by simp; omega
  have hw1 : IntKind.u64.wrap (n : Int) = (n : Int) := by rw [IntKind.wrap_u64]; omega
  have hw2 : IntKind.i64.wrap (n : Int) = (n : Int) := IntWalk.i64_in _ (by omega)
  go_enter Try.func76, Try.ntmps76
  go_wp2_with fail
  refine Calls.mono (imul n (by omega) _) ?_
  rintro e w2 ⟨rfl, rfl⟩
  have hbG : b < w2.heap.size := World.block_lt_of_cell? _ _ hb
  have hsrc0 : ∀ j, j < 1 → (w2.alloc (.cells (lensRow (fun _ => 0) n).toArray 5)).cell? (Addr.add ⟨b, 0, none⟩ j) = some (u8v x) := fun j hj => by
    obtain rfl : j = 0 := by omega
    exact cell_later (Below.al1 _ _) hb
  obtain ⟨w3, hcp, hg3, hb3⟩ := copy_filled (w := w2.alloc (.cells (lensRow (fun _ => 0) n).toArray 5)) (w0 := w2) (G := w2.heap.size) (x := x) (m := 0) (k := 1) (n := n) (ad := ⟨b, 0, none⟩) (sLen := 1) (sCap := 1) (dLen := n) (dCap := n)
    (by rw [filled_zero]; exact World.alloc_heap_new _ _) (Below.al1 _ _) (Nat.le_refl _) (by simp [Nat.min_def]; omega) (by omega) hsrc0
  rw [Nat.zero_add] at hg3
  have Hg3 := Lib.hid hg3
  have Hb3 := Lib.hid hb3
  clear hg3 hb3 hb hbG hsrc0
  go_wp2_with fail
  go_loopw [8] (fun nv wr => ∃ m : Nat, nv = .int .i64 (m : Int) ∧ 1 ≤ m ∧ m ≤ n ∧ Hid (wr.heap[w2.heap.size]? = some (.cells (filled x m n).toArray 5 (0, 0))) ∧ Hid (Below w2.heap.size w2 wr)) (fun nv _ => n - (intOf nv).toNat)
  case atStart => exact ⟨1, rfl, Nat.le_refl _, h1, Hg3, Hb3⟩
  case round =>
    obtain ⟨m, rfl, hm1, hmn, HG, HB⟩ := hrel
    clear hcp
    by_cases hlt : m < n
    · have e0 : decide ((m : Int) < (n : Int)) = true := by simp; omega
      have hs1 := slice_tail8 w2.heap.size n m hlt
      have hs2 := slice_head8 w2.heap.size n m hmn
      obtain ⟨k, hk⟩ : ∃ k, Nat.min m (n - m) = k := ⟨_, rfl⟩
      have hk' : min m (n - m) = k := hk
      have hk1 : 1 ≤ k ∧ k ≤ n - m ∧ k ≤ m := by omega
      clear hk'
      have hdr : Below wr.heap.size wr wr.drew := Below.drew (Below.refl _ _)
      obtain ⟨w4, hcp, hg4, hb4⟩ := copy_filled (w := wr.drew) (w0 := w2) (G := w2.heap.size) (x := x) (m := m) (k := k) (n := n) (ad := ⟨w2.heap.size, 0, none⟩) (sLen := m) (sCap := n) (dLen := n - m) (dCap := n - m)
        HG.out (Below.thn HB.out hdr) (Nat.le_refl _) hk.symm (by omega) (fun j hj => by
          have ha : Addr.add ⟨w2.heap.size, 0, none⟩ j = ⟨w2.heap.size, j, none⟩ := by
            unfold Addr.add; split
            · rename_i h; rw [h]
            · simp
          rw [ha]
          have : wr.drew.heap[w2.heap.size]? = some (.cells (filled x m n).toArray 5 (0, 0)) := HG.out
          simp only [World.cell?, this]
          rw [List.getElem?_toArray, filled_at (by omega)]
          rfl)
      have hw : IntKind.i64.wrap ((m : Int) + (k : Int)) = ((m + k : Nat) : Int) := IntWalk.i64_in _ (by omega)
      have Hg4 := Lib.hid hg4
      have Hb4 := Lib.hid hb4
      clear hg4 hb4 hdr hk
      go_wp2_with fail
      go_region
      all_goals go_wp2
      all_goals go_roundw
      case rel => exact ⟨m + k, by go_num, by omega, by omega, Hg4, Hb4⟩
      case measure => simp [intOf]; omega
    · obtain rfl : m = n := by omega
      go_wp2
      go_ret
      refine ⟨_, rfl, ⟨by simp, .inr ⟨w2.heap.size, m, _, rfl, Nat.le_refl _, HG.out, Nat.le_refl _, by simp only [maxLen]; omega, ?_, ?_⟩⟩, HB.out⟩
      · rw [List.size_toArray, filled_len (Nat.le_refl _), Nat.mul_one]
      · rw [Nat.mul_one, filled_all]
        simp

theorem owns_lower {w : World} {B B' : Nat} {e : TypeId} {size : Nat} {v : Value} {n : Nat} {xs : List Value} (h : w.ownsRow B e size v n xs) (hb : B' ≤ B) : w.ownsRow B' e size v n xs :=
  ⟨h.1, h.2.imp id fun ⟨g, cap, cur, a, b, c⟩ => ⟨g, cap, cur, a, Nat.le_trans hb b, c⟩⟩

set_option maxHeartbeats 1000000 in
theorem irun_any (x n : Nat) (hx : x < 256) (h1 : 1 ≤ n) (hn : n ≤ 1000) (w : World) :
    Calls Try.prog 63 #[.int .u8 (x : Int), .int .i64 (n : Int)] w fun e w' => ∃ v, e = .returned v ∧ w'.ownsRow w.heap.size 5 1 v n (List.replicate n (u8v x)) ∧ Below w.heap.size w w' := by
  go_enter Try.func63, Try.ntmps63
  go_wp2_with fail
  refine Calls.mono (srep_any w.heap.size x n hx h1 hn _ (by simp [go_sem])) ?_
  rintro e w1 ⟨v, rfl, ho, hb⟩
  have Hb := Lib.hid (Below.thn (Below.al1 w _) hb)
  have Ho := Lib.hid (owns_lower ho (Below.al1 w (.cells #[.int .u8 (x : Int)] 5)).size)
  clear ho hb
  go_wp2
  go_ret
  exact ⟨_, rfl, Ho.out, Hb.out⟩

end Go.Proofs.Ytdcmalbbijchiaa

/- inflate: the usual codes: slices.Grow and slices.Concat of rows of bytes, walked. -/
namespace Go.Proofs.Ytdcmalbbijchiaa
open Go.RowKit Go.Maps

set_option maxHeartbeats 1000000 in
theorem sgrow_any (n : Nat) (h0 : 0 < n) (hn : n ≤ 10000) (w : World) :
    Calls Try.prog 75 #[.slice none 0 0, .int .i64 (n : Int)] w fun e w' => ∃ v, e = .returned v ∧ w'.ownsRow w.heap.size 5 1 v 0 [] ∧ Below w.heap.size w w' := by
  obtain ⟨i, hi, hz, hs, hb⟩ := info_parts u8_info
  have d0 : decide ((n : Int) < 0) = false := by simp
  have d1 : decide ((n : Int) > 0) = true := by simp; omega
  have hw : IntKind.i64.wrap (n : Int) = (n : Int) := IntWalk.i64_in _ (by omega)
  have hw2 : wrap64 (n : Int) = (n : Int) := wrap64_in _ (by omega)
  have hap := Lib.run_append_nil_zeros (P := Try.prog) w 23 3 23 5 i _ .i64 .i64 Try.underlying23 Try.underlying3 hi hz n h0 (by rw [hs]; decide) (by omega) (by rw [hb]; omega)
  have hcap : n ≤ grownCap w n 0 5 := grownCap_ge w _ _ _
  have hcap2 : grownCap w n 0 5 ≤ maxLen := grownCap_le_maxLen w n 0 _ (by simp only [maxLen]; omega)
  obtain ⟨G, hG⟩ : ∃ G, grownCap w n 0 5 = G := ⟨_, rfl⟩
  rw [hG] at hap hcap hcap2
  obtain ⟨cs, hcs⟩ : ∃ cs, Builtin.zeroCells (Value.int IntKind.u8 0).cells n ++ Builtin.zeroCells (Value.int IntKind.u8 0).cells (G - n) = cs := ⟨_, rfl⟩
  rw [hcs] at hap
  have hsz : cs.size = G := by rw [← hcs]; simp only [Array.size_append, size_zeroCells, show (Value.int IntKind.u8 0).cells.size = 1 from rfl]; omega
  have hown : ((w.drew.alloc (.cells cs 5))).ownsRow w.heap.size 5 1 (.slice (some ⟨w.heap.size, 0, none⟩) 0 G) 0 [] :=
    ⟨rfl, .inr ⟨w.heap.size, G, cs, rfl, Nat.le_refl _, World.alloc_heap_new w.drew _, Nat.zero_le _, hcap2, by omega, by simp⟩⟩
  have hbl : Below w.heap.size w (w.drew.alloc (.cells cs 5)) := Below.thn (Below.drew (Below.refl _ _)) (Below.al1 _ _)
  obtain ⟨w1, hw1⟩ : ∃ w1, w.drew.alloc (.cells cs 5) = w1 := ⟨_, rfl⟩
  rw [hw1] at hap hown hbl
  have Hap := Lib.hid hap
  clear hap hcs hsz hw1 hi hz hs hb hG
  go_enter Try.func75, Try.ntmps75
  go_wp2_with (at_builtin; refine Lib.wpList_append_run _ rfl _ _ _ _ rfl _ _ rfl rfl _ _ Hap.out ?_)
  go_ret
  exact ⟨_, rfl, hown, hbl⟩

/-- Rows one behind the other: how long the first i are, and what they hold. -/
def tot (R : List (Value × List Nat)) (i : Nat) : Nat := ((R.take i).map fun r => r.2.length).sum
def cat (R : List (Value × List Nat)) (i : Nat) : List Nat := (R.take i).flatMap fun r => r.2
theorem tot_succ {R : List (Value × List Nat)} {i : Nat} (h : i < R.length) : tot R (i + 1) = tot R i + R[i].2.length := by
  unfold tot
  rw [List.take_succ_eq_append_getElem h, List.map_append, List.sum_append]
  simp only [List.map_cons, List.map_nil, List.sum_cons, List.sum_nil, Nat.add_zero]
theorem cat_succ {R : List (Value × List Nat)} {i : Nat} (h : i < R.length) : cat R (i + 1) = cat R i ++ R[i].2 := by
  unfold cat
  rw [List.take_succ_eq_append_getElem h, List.flatMap_append]
  simp only [List.flatMap_cons, List.flatMap_nil, List.append_nil]
theorem cat_len (R : List (Value × List Nat)) : ∀ i, i ≤ R.length → (cat R i).length = tot R i
  | 0, _ => rfl
  | i + 1, h => by rw [cat_succ (by omega), tot_succ (by omega), List.length_append, cat_len R i (by omega)]
theorem tot_up (R : List (Value × List Nat)) (i : Nat) : ∀ k, i + k ≤ R.length → tot R i ≤ tot R (i + k)
  | 0, _ => Nat.le_refl _
  | k + 1, h => by
    have h1 := tot_up R i k (by omega)
    have h2 := tot_succ (R := R) (i := i + k) (by omega)
    rw [Nat.add_assoc] at h2
    omega
theorem tot_le (R : List (Value × List Nat)) {i : Nat} (h : i ≤ R.length) : tot R i ≤ tot R R.length := by
  have := tot_up R i (R.length - i) (by omega)
  rw [show i + (R.length - i) = R.length by omega] at this
  exact this

set_option maxRecDepth 20000 in
set_option maxHeartbeats 2000000 in
theorem sconcat_any (g c : Nat) (R : List (Value × List Nat)) (w : World) (hc : ∀ i (h : i < R.length), w.cell? ⟨g, i, none⟩ = some R[i].1 ∧ Rw8 w R[i].1 R[i].2) (h0 : 0 < tot R R.length) (hn : tot R R.length ≤ 10000) (hR : R.length ≤ 1000) :
    Calls Try.prog 62 #[.slice (some ⟨g, 0, none⟩) R.length c] w fun e w' => ∃ v, e = .returned v ∧ w'.ownsRow w.heap.size 5 1 v (tot R R.length) ((cat R R.length).map u8v) ∧ Below w.heap.size w w' := by
  have Hc := Lib.hid hc
  obtain ⟨i0, hi0, hz0, hz1, hz2⟩ := info_parts u8_info
  clear hc
  go_enter Try.func62, Try.ntmps62
  go_wp2_with fail
  go_loopw [3, 11] (fun sv iv wr => ∃ i : Nat, iv = .int .i64 (i : Int) ∧ sv = .int .i64 (tot R i : Int) ∧ i ≤ R.length ∧ wr = w) (fun _ iv _ => R.length - (intOf iv).toNat)
  case atStart => exact ⟨0, rfl, rfl, Nat.zero_le _, rfl⟩
  case round =>
    obtain ⟨i, rfl, rfl, hi, rfl⟩ := hrel
    by_cases hin : i < R.length
    · have d1 : decide ((i : Int) < (R.length : Int)) = true := by simp; omega
      obtain ⟨hcell, hrw⟩ := Hc.out i hin
      obtain ⟨p', c', e', -, -, -⟩ := hrw.cells
      have hts := tot_succ hin
      have hle := tot_le R (i := i + 1) (by omega)
      rw [e'] at hcell
      obtain ⟨q, hq⟩ : ∃ q, R[i].2.length = q := ⟨_, rfl⟩
      rw [hq] at hcell hts
      obtain ⟨t, ht⟩ : ∃ t, tot R i = t := ⟨_, rfl⟩
      rw [ht] at hts ⊢
      have hw : IntKind.i64.wrap ((t : Int) + (q : Int)) = ((t + q : Nat) : Int) := IntWalk.i64_in _ (by omega)
      have d2 : decide (((t + q : Nat) : Int) < 0) = false := by simp only [decide_eq_false_iff_not]; omega
      have d3 : decide ((t : Int) + (q : Int) < 0) = false := by simp only [decide_eq_false_iff_not]; omega
      have j0 : (0 : Int) ≤ (i : Int) := by omega
      have j1 : (i : Int) < (R.length : Int) := by omega
      have Hts := Lib.hid hts
      clear hts hle hrw e' hq ht
      go_wp2
      go_roundw
      case rel => exact ⟨i + 1, by go_num, by rw [Hts.out, Int.natCast_add], by omega, by first | rfl | trivial⟩
      case measure => simp [intOf]; omega
    · obtain rfl : i = R.length := by omega
      have hcat : (cat R 0).map u8v = [] := rfl
      go_wp2_with fail
      refine Calls.mono (sgrow_any (tot R R.length) h0 hn _) ?_
      rintro e w1 ⟨v1, rfl, ho, hb⟩
      have Hb := Lib.hid hb
      have Ho := Lib.hid ho
      obtain ⟨p1, c1, rfl⟩ := owns_slice ho
      clear ho hb
      go_wp2_with fail
      go_loopw [6, 27] (fun nv iv w2 => ∃ i : Nat, iv = .int .i64 (i : Int) ∧ i ≤ R.length ∧ Hid (w2.ownsRow wr.heap.size 5 1 nv (tot R i) ((cat R i).map u8v)) ∧ Hid (Below wr.heap.size wr w2)) (fun _ iv _ => R.length - (intOf iv).toNat)
      case atStart => exact ⟨0, rfl, Nat.zero_le _, Ho, Hb⟩
      case round =>
        obtain ⟨i, rfl, hi, HO, HB⟩ := hrel
        by_cases hin : i < R.length
        · have d1 : decide ((i : Int) < (R.length : Int)) = true := by simp; omega
          obtain ⟨hcell, hrw⟩ := Hc.out i hin
          obtain ⟨p', c', e', hc1, hc2, hsrc⟩ := (hrw.below HB.out).src enc8_len (by decide)
          have hcell := cell_later HB.out hcell
          rw [flat8] at hsrc
          rw [e'] at hcell
          have hts := tot_succ hin
          have hcs := cat_succ hin
          have hle := tot_le R (i := i + 1) (by omega)
          have Hx := Lib.hid (And.intro hts (And.intro hcs hsrc))
          have Hle := Lib.hid (show tot R i + R[i].2.length ≤ 10000 by omega)
          have hbl := HB.out.size
          obtain ⟨p2, c2, rfl⟩ := owns_slice HO.out
          have j0 : (0 : Int) ≤ (i : Int) := by omega
          have j1 : (i : Int) < (R.length : Int) := by omega
          clear hts hcs hle hrw hsrc e'
          go_wp2_with (at_builtin; refine wpList_append_mine wr rfl (.tmp 31) (.tmp 32) 23 rfl _ 5 i0 _ 1 1 Try.underlying23 hi0 hz0 hz1 hz2 rfl (by decide) (.slice p2 (tot R i) c2) (tot R i) ((cat R i).map u8v) rfl HO.out p' R[i].2.length c' (R[i].2.map u8v) rfl (by simp) Hx.out.2.2 (one8 _) ?n3 ?n4 hbl ?_)
          case n3 => have := Hle.out; simp only [maxLen]; omega
          case n4 => have := Hle.out; omega
          intro v2 w2 ho2 hg2 _
          have HO2 := Lib.hid ho2
          have HB2 := Lib.hid (HB.out.trans ((Turns.of_grown (T := fun k => (Value.slice p2 (tot R i) c2).ownBlock = some k) hg2 (fun _ h => h)).below hbl (fun k hk => (HO.out.lt k hk).1)))
          clear ho2 hg2
          go_wp2
          go_roundw
          case rel => exact ⟨i + 1, by go_num, by omega, Lib.hid (by rw [Hx.out.1, Hx.out.2.1, List.map_append]; exact HO2.out), HB2⟩
          case measure => simp [intOf]; omega
        · obtain rfl : i = R.length := by omega
          obtain ⟨p2, c2, rfl⟩ := owns_slice HO.out
          go_wp2
          go_ret
          exact ⟨_, rfl, HO.out, HB.out⟩

end Go.Proofs.Ytdcmalbbijchiaa
