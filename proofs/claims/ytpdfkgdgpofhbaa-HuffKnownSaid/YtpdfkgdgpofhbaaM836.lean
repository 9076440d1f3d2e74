/- Several texts in one, each with its own head. -/
import Derived.Test.YtpdfkgdgpofhbaaM835
import Derived.Test.YtpdfkgdgpofhbaaM833
/- A code's row of bits is its number (plain). -/
namespace Go.Proofs.Ytpdfkgdgpofhbaa

theorem trn_acc : ∀ n r x, trn n r x = r * 2 ^ n + trn n 0 x
  | 0, r, x => by simp [trn]
  | n + 1, r, x => by
    rw [trn, trn, trn_acc n (r * 2 + x % 2), trn_acc n (0 * 2 + x % 2), Nat.pow_succ, Nat.add_mul, Nat.zero_mul, Nat.zero_add, Nat.mul_assoc r, Nat.mul_comm 2, Nat.add_assoc]

theorem brow_step (n x : Nat) : brow (n + 1) x (n + 1) = brow n (x / 2) n ++ [decide (x % 2 = 1)] := by
  rw [brow_snoc]
  congr 1
  · unfold brow
    refine List.map_congr_left fun i hi => ?_
    have hi := List.mem_range.1 hi
    rw [Nat.div_div_eq_div_mul, ← Nat.pow_succ', show n + 1 - 1 - i = (n - 1 - i) + 1 by omega]
  · simp

theorem numL_snoc' (l : List Bool) (b : Bool) : numL (l ++ [b]) = numL l + b.toNat * 2 ^ l.length := by
  induction l with
  | nil => cases b <;> simp [numL]
  | cons a r ih =>
    rw [List.cons_append, numL, ih, numL, List.length_cons, Nat.pow_succ, Nat.mul_add, Nat.mul_comm 2 (_ * _), Nat.mul_assoc, Nat.add_assoc]

theorem numL_brow : ∀ n x, numL (brow n x n) = trn n 0 x
  | 0, x => rfl
  | n + 1, x => by
    rw [brow_step, numL_snoc', numL_brow n, brow_len, trn, trn_acc n (0 * 2 + x % 2), Nat.zero_mul, Nat.zero_add, Nat.add_comm]
    congr 1
    have : (decide (x % 2 = 1)).toNat = x % 2 := by
      rcases Nat.mod_two_eq_zero_or_one x with h | h <;> simp [h]
    rw [this]

theorem numL_rowOf (f : Nat → Nat) (N s : Nat) : numL (rowOf f N s) = cd f N s := numL_brow _ _

end Go.Proofs.Ytpdfkgdgpofhbaa

/- huff's New, and Read's refusals. -/
namespace Go.Proofs.Ytpdfkgdgpofhbaa
open Go.RowKit Go.Maps

theorem new_bad (ls : List Nat) (v : Value) (w : World) (hv : Row enc8 1 w v ls) (hc : chk ls ≠ 0) :
    Calls Try.prog 10 #[v] w fun e w' => e = .returned (.tuple #[.pointer none, .int .i64 (chk ls)]) ∧ w' = w := by
  have Hv := Lib.hid hv
  obtain ⟨r, hr⟩ : ∃ r, chk ls = r := ⟨_, rfl⟩
  have Hr := Lib.hid hr
  rw [hr] at hc ⊢
  have e0 : (r != 0) = true := by simpa using hc
  clear hr hv
  go_enter Try.func10, Try.ntmps10
  go_wp2_with fail
  refine Calls.mono (check_any ls v w Hv.out) ?_
  rintro e w1 ⟨rfl, rfl⟩
  rw [Hr.out]
  go_wp2
  go_ret2
  exact ⟨rfl, rfl⟩

/-- A table that reads these lengths' codes, in blocks from B on. -/
structure TabOk (w : World) (T B : Nat) (ls : List Nat) : Prop where
  ex : ∃ (M n L : Nat) (F : Nat × Nat → Option Nat), w.heap[T]? = some (.cells #[.map (some M), .int .u16 (L : Int)] 69) ∧ MapAt w M n F ∧ ToldF (lq ls) ls.length 15 0 F ∧ ToldM (lq ls) ls.length 15 0 L ∧ B ≤ M
  ge : B ≤ T

theorem NJ.start (w : World) (v : Value) (ls : List Nat) (hv : Row enc8 1 w v ls) :
    NJ w v ls w.heap.size (w.heap.size + 1) (w.heap.size + 1 + 1) 0 0 (((w.alloc (.map #[] 0)).alloc (.cells #[.map (some w.heap.size), .int .u16 0] 69)).alloc (.cells #[.pointer (some ⟨w.heap.size + 1, 0, none⟩)] 27)) := by
  have hp := heap_pushed [.map #[] 0, .cells #[.map (some w.heap.size), .int .u16 0] 69, .cells #[.pointer (some ⟨w.heap.size + 1, 0, none⟩)] 27] w
  have hb : Below w.heap.size w (((w.alloc (.map #[] 0)).alloc (.cells #[.map (some w.heap.size), .int .u16 0] 69)).alloc (.cells #[.pointer (some ⟨w.heap.size + 1, 0, none⟩)] 27)) := Below.thn (Below.al2 w _ _) (Below.al1 _ _)
  have hm : MapAt (((w.alloc (.map #[] 0)).alloc (.cells #[.map (some w.heap.size), .int .u16 0] 69)).alloc (.cells #[.pointer (some ⟨w.heap.size + 1, 0, none⟩)] 27)) w.heap.size 0 fun _ => none :=
    (MapAt.made w).turned (T := fun _ => False) (((Turns.refl _ _).alloc _).alloc _) (fun h => h)
  refine ⟨⟨0, fun _ => none, ⟨(hp 2 _).2 rfl, (hp 1 _).2 rfl, ?_⟩, ⟨fun i hi ht => ?_, fun q x hx => by cases hx⟩, ⟨fun i hi ht => ?_, .inl rfl⟩⟩, hv.below hb, hb, Nat.le_refl _, by omega⟩
  · exact hm.mono (by omega)
  · unfold Tld at ht; omega
  · unfold Tld at ht; omega

set_option maxRecDepth 20000 in
set_option maxHeartbeats 1000000 in
theorem new_ok (ls : List Nat) (v : Value) (w : World) (hv : Row enc8 1 w v ls) (hc : chk ls = 0) (ha : Apt (lq ls) ls.length) :
    Calls Try.prog 10 #[v] w fun e w' => ∃ T, e = .returned (.tuple #[.pointer (some ⟨T, 0, none⟩), .int .i64 0]) ∧ TabOk w' T w.heap.size ls ∧ Below w.heap.size w w' := by
  obtain ⟨h1, h2, -⟩ := chk_zero hc
  have hvb : ∀ k, v.ownBlock = some k → k < w.heap.size := fun k hk => by
    obtain ⟨p, c, rfl, _, _, h⟩ := hv
    rcases h with ⟨rfl, -⟩ | ⟨bb, off, rfl, hbb, -⟩
    · cases hk
    · cases hk; exact hbb
  have Hv := Lib.hid hv
  have Hc := Lib.hid hc
  have H2 := Lib.hid h2
  have Hvb := Lib.hid hvb
  have Ha := Lib.hid ha
  obtain ⟨p, c, rfl, -, -, -⟩ := hv
  have hmk := run_makeMap (P := Try.prog) 67 w
  clear hc h2 hvb ha
  go_enter Try.func10, Try.ntmps10
  go_wp2_with fail
  refine Calls.mono (check_any ls _ w Hv.out) ?_
  rintro e w1 ⟨rfl, rfl⟩
  rw [Hc.out]
  go_wp2_with fail
  refine Calls.mono (tellN_any ls _ (w1.heap.size + 1 + 1) (fun n k w' => NJ w1 (.slice p ls.length c) ls w1.heap.size (w1.heap.size + 1) (w1.heap.size + 1 + 1) n k w') _ h1 (fun n k w' h => h.lens)
    (fun n k w' hn hk hl h => NJ.hand w1 _ ls _ _ _ n k w' h1 Ha.out Hvb.out (by omega) (by omega) (by omega) hn hk hl h)
    (fun n k w' _ hl h => NJ.skip w1 _ ls _ _ _ n k w' hl h) (fun n w' h => NJ.next w1 _ ls _ _ _ n w' h) (NJ.start w1 _ ls Hv.out)) ?_
  rintro e w2 ⟨rfl, hj⟩
  have HJ := Lib.hid hj
  obtain ⟨L, F, g1, -, -⟩ := hj.tab
  have c0 : w2.cell? ⟨w1.heap.size + 1 + 1, 0, none⟩ = some (.pointer (some ⟨w1.heap.size + 1, 0, none⟩)) := cell_heap g1.box rfl
  clear hj g1
  go_wp2
  go_ret2
  obtain ⟨L', F', g1, g2, g3⟩ := HJ.out.tab
  exact ⟨_, rfl, ⟨⟨_, _, L', F', g1.tab, g1.map, g2, g3, HJ.out.gM⟩, HJ.out.gT⟩, HJ.out.below⟩

/-- Read of no table, or from no reader. -/
theorem read_nil_t (v : Value) (w : World) : Calls Try.prog 15 #[.pointer none, v] w fun e w' => e = .returned (.tuple #[.int .i64 0, .int .i64 8]) ∧ w' = w := by
  go_enter Try.func15, Try.ntmps15
  go_wp2
  go_ret2
  exact ⟨rfl, rfl⟩
theorem read_nil_r (T : Nat) (w : World) : Calls Try.prog 15 #[.pointer (some ⟨T, 0, none⟩), .pointer none] w fun e w' => e = .returned (.tuple #[.int .i64 0, .int .i64 8]) ∧ w' = w := by
  go_enter Try.func15, Try.ntmps15
  go_wp2
  go_ret2
  exact ⟨rfl, rfl⟩

end Go.Proofs.Ytpdfkgdgpofhbaa
