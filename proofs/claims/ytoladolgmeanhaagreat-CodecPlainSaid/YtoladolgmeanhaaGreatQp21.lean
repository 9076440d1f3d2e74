/- Several texts in one, each with its own head. -/
import Derived.Test.YtoladolgmeanhaaGreatQp20
import Derived.Test.YtoladolgmeanhaaGreatQp10
/- deflate: a number told by a step and the bits behind it. -/
namespace Go.Proofs.YtoladolgmeanhaaGreat
open Go.RowKit Go.Maps

structure Pa where
  c : Nat
  s : Nat
  m : Nat
  z : Nat
abbrev PaV (p : Pa) : Value := .agg #[.int .i64 (p.c : Int), .int .i64 (p.s : Int), .int .i64 (p.m : Int), .int .i64 (p.z : Int)]
def paC (p : Pa) : Array Value := #[.int .i64 (p.c : Int), .int .i64 (p.s : Int), .int .i64 (p.m : Int), .int .i64 (p.z : Int)]
def PaAt (W : World) (B : Nat) (p : Pa) : Prop := W.heap[B]? = some (.cells (paC p) 168)
theorem cells_setD {W : World} {B : Nat} {t : TypeId} {cs : Array Value} (i : Nat) (u : Value) (h : W.heap[B]? = some (.cells cs t)) : (W.setCell ⟨B, i, none⟩ u).heap[B]? = some (.cells (cs.setIfInBounds i u) t) := by
  obtain ⟨hlt, hk⟩ := Array.getElem?_eq_some_iff.1 h
  show (W.heap.modify B _)[B]? = _
  rw [Array.getElem?_eq_getElem (by rw [Array.size_modify]; exact hlt), Array.getElem_modify_self, hk]
  rfl
theorem four_setD {W : World} {B : Nat} {t : TypeId} {a b c d : Value} (x y z u : Value) (h : W.heap[B]? = some (.cells #[a, b, c, d] t)) : ((((W.setCell ⟨B, 0, none⟩ x).setCell ⟨B, 1, none⟩ y).setCell ⟨B, 2, none⟩ z).setCell ⟨B, 3, none⟩ u).heap[B]? = some (.cells #[x, y, z, u] t) := by
  simpa using cells_setD 3 u (cells_setD 2 z (cells_setD 1 y (cells_setD 0 x h)))
theorem PaAt.c {W : World} {B : Nat} {p : Pa} (h : PaAt W B p) : W.cell? ⟨B, 0, none⟩ = some (.int .i64 (p.c : Int)) ∧ W.cell? ⟨B, 1, none⟩ = some (.int .i64 (p.s : Int)) ∧ W.cell? ⟨B, 2, none⟩ = some (.int .i64 (p.m : Int)) ∧ W.cell? ⟨B, 3, none⟩ = some (.int .i64 (p.z : Int)) :=
  ⟨cell_heap h rfl, cell_heap h rfl, cell_heap h rfl, cell_heap h rfl⟩
theorem PaAt.f {W : World} {B : Nat} {p : Pa} (h : PaAt W B p) (i : Nat) : W.frozen? ⟨B, i, none⟩ = false := by unfold PaAt at h; simp [World.frozen?, h]
theorem PaAt.below {W W' : World} {B : Nat} {p : Pa} (h : PaAt W B p) (hb : Below W.heap.size W W') : PaAt W' B p := (hb.block B (lt_heap h)).trans h
theorem pa_new (W : World) (p : Pa) : PaAt (W.alloc (.cells (paC p) 168)) W.heap.size p := World.alloc_heap_new W _
theorem PaAt.set {W : World} {B : Nat} {p : Pa} (h : PaAt W B p) (r : Pa) : PaAt ((((W.setCell ⟨B, 0, none⟩ (.int .i64 (r.c : Int))).setCell ⟨B, 1, none⟩ (.int .i64 (r.s : Int))).setCell ⟨B, 2, none⟩ (.int .i64 (r.m : Int))).setCell ⟨B, 3, none⟩ (.int .i64 (r.z : Int))) B r := four_setD _ _ _ _ h
theorem results_pa {fn : Func} {p : Tmp} {tmps : Array Value} {w : World} {B : Nat} {r : Pa} (h : fn.results = #[.cell p 168]) (hp : tmps.getD p undef = .pointer (some ⟨B, 0, none⟩)) (hl : PaAt w B r) : (results fn tmps).run Tryz.prog w = .ok (PaV r) w := by
  obtain ⟨c0, c1, c2, c3⟩ := hl.c
  have hp' : tmps[p]?.getD undef = .pointer (some ⟨B, 0, none⟩) := by simpa using hp
  simp [results, h, hp', go_sem, c0, c1, c2, c3]
theorem low_i64 (v k : Nat) (hv : v < 32768) (hk : k ≤ 14) : bits .and .i64 (v : Int) (((2 ^ k : Nat) : Int) - 1) = ((v % 2 ^ k : Nat) : Int) := by
  have hz : (2 : Nat) ^ k ≤ 16384 := Nat.pow_le_pow_right (n := 2) (j := 14) (by decide) hk
  have hz0 : 0 < (2 : Nat) ^ k := Nat.two_pow_pos _
  rw [show ((((2 ^ k : Nat) : Int)) - 1) = 2 ^ k - 1 by simp, bits_mask .i64 62 (by decide) (fun m h0 h1 => IntWalk.i64_in _ (by omega)) k (by omega) v (by omega) (by omega)]
  simp
set_option maxRecDepth 20000 in
set_option maxHeartbeats 4000000 in
theorem stepped_any (n each : Nat) (w : World) (hn : n < 32768) (he : 2 ≤ each ∧ each ≤ 4) :
    Calls Tryz.prog 133 #[.int .i64 (n : Int), .int .i64 (each : Int)] w fun e w' => (∃ k : Nat, k ≤ 14 ∧ n / 2 ^ k < 2 * each ∧ (k = 0 ∨ 2 * each ≤ n / 2 ^ (k - 1)) ∧ e = .returned (PaV ⟨0, n / 2 ^ k + each * k, n % 2 ^ k, k⟩)) ∧ Below w.heap.size w w' := by
  go_enter Tryz.func133, Tryz.ntmps133
  go_wp2_with fail
  go_loopw [5] (fun kv wr => ∃ k : Nat, kv = .int .i64 (k : Int) ∧ k ≤ 14 ∧ (k = 0 ∨ Hid (2 * each ≤ n / 2 ^ (k - 1))) ∧ wr = w.alloc (.cells #[.int .i64 0, .int .i64 0, .int .i64 0, .int .i64 0] 168)) (fun kv _ => 14 - (intOf kv).toNat)
  case atStart => exact ⟨0, rfl, by omega, .inl rfl, rfl⟩
  case round =>
    obtain ⟨k, rfl, hk, hk0, rfl⟩ := hrel
    obtain ⟨q, hq0⟩ : ∃ q, n / 2 ^ k = q := ⟨_, rfl⟩
    have hq : (n : Int) / 2 ^ k = (q : Int) := by rw [← hq0]; simp
    obtain ⟨z, hz0⟩ : ∃ z, 2 ^ k = z := ⟨_, rfl⟩
    have hz : (2 : Int) ^ k = (z : Int) := by rw [← hz0]; simp
    have hz1 : 1 ≤ z ∧ z ≤ 16384 := by rw [← hz0]; exact ⟨Nat.two_pow_pos _, Nat.pow_le_pow_right (n := 2) (j := 14) (by decide) hk⟩
    have hqn : q ≤ n := by rw [← hq0]; exact Nat.div_le_self _ _
    have Hq := Lib.hid hq0
    have Hz := Lib.hid hz0
    clear hq0 hz0
    by_cases hge : 2 * each ≤ q
    · have d1 : decide ((q : Int) ≥ 2 * (each : Int)) = true := by simp; omega
      have d1' : decide (2 * (each : Int) ≤ (q : Int)) = true := by simp; omega
      have hk14 : k + 1 ≤ 14 := by
        by_cases h : k = 14
        · exfalso
          have h1 := Hq.out
          rw [h] at h1
          have : n / 2 ^ 14 < 2 := by omega
          omega
        · omega
      rw [hz] at hq
      go_wp2
      go_roundw
      case rel => exact ⟨k + 1, by go_num, hk14, .inr (Lib.hid (by rw [Nat.add_sub_cancel, Hq.out]; exact hge)), trivial⟩
      case measure => simp [intOf]; omega
    · have d1 : decide ((q : Int) ≥ 2 * (each : Int)) = false := by simp; omega
      have d1' : decide (2 * (each : Int) ≤ (q : Int)) = false := by simp; omega
      rw [hz] at hq
      have hek : each * k ≤ 4 * 14 := Nat.mul_le_mul he.2 hk
      have hw1 : IntKind.i64.wrap ((each : Int) * (k : Int)) = ((each * k : Nat) : Int) := by
        have e : ((each : Int) * (k : Int)) = ((each * k : Nat) : Int) := by simp
        rw [e]
        exact IntWalk.i64_in _ (by omega)
      have hw2 : IntKind.i64.wrap ((q : Int) + ((each * k : Nat) : Int)) = ((q + each * k : Nat) : Int) := by rw [IntWalk.i64_in _ (by omega)]; simp
      have hw3 : IntKind.i64.wrap (z : Int) = (z : Int) := IntWalk.i64_in _ (by omega)
      have hw4 : IntKind.i64.wrap ((z : Int) - 1) = (z : Int) - 1 := IntWalk.i64_in _ (by omega)
      have hw5 : bits .and .i64 (n : Int) ((z : Int) - 1) = ((n % z : Nat) : Int) := by
        have := low_i64 n k hn hk
        rwa [Hz.out] at this
      obtain ⟨ek, hek0⟩ : ∃ ek, each * k = ek := ⟨_, rfl⟩
      obtain ⟨mz, hmz0⟩ : ∃ mz, n % z = mz := ⟨_, rfl⟩
      have Hek := Lib.hid hek0
      have Hmz := Lib.hid hmz0
      rw [hek0] at hek hw1 hw2
      rw [hmz0] at hw5
      have hmz1 : mz ≤ n := by rw [← hmz0]; exact Nat.mod_le _ _
      clear hek0 hmz0
      go_upto_region 4 with (fail)
      have hp0 := pa_new w ⟨0, 0, 0, 0⟩
      have hb0 := Below.al1 w (.cells (paC ⟨0, 0, 0, 0⟩) 168)
      simp only [paC, Int.natCast_zero] at hp0 hb0
      generalize w.alloc (.cells #[.int .i64 0, .int .i64 0, .int .i64 0, .int .i64 0] 168) = w1 at *
      have hqq := After.ne w1
      refine wp_region_head 14 (by kernel_rfl) (by kernel_rfl) (by kernel_rfl) ?_
      repeat (refine Lq_step (fun K hK => ?_); go_simp; (refine hK _ ?_; clear hK K))
      refine Lq_nil ?_
      intro w2 hb2
      simp only [List.drop_succ_cons, List.drop_zero]
      have hp2 := hp0.below hb2
      have y0 := hp2.f 0
      have y1 := hp2.f 1
      have y2 := hp2.f 2
      have y3 := hp2.f 3
      obtain ⟨x0, x1, x2, x3⟩ := hp2.c
      have hset := hp2.set ⟨0, q + ek, mz, k⟩
      have hbw := Below.thn hb0 hb2
      have hbw2 : Below w.heap.size w ((((w2.setCell ⟨w.heap.size, 0, none⟩ (.int .i64 ((0 : Nat) : Int))).setCell ⟨w.heap.size, 1, none⟩ (.int .i64 ((q + ek : Nat) : Int))).setCell ⟨w.heap.size, 2, none⟩ (.int .i64 (mz : Int))).setCell ⟨w.heap.size, 3, none⟩ (.int .i64 (k : Int))) :=
        (((hbw.setCell (Nat.le_refl _) _).setCell (Nat.le_refl _) _).setCell (Nat.le_refl _) _).setCell (Nat.le_refl _) _
      have Hset := Lib.hid hset
      have Hbw2 := Lib.hid hbw2
      have Hk0 := Lib.hid hk0
      clear hp0 hb0 hb2 hqq hset hbw hbw2 hp2 hk0
      go_wp2
      refine bodyPost_ret (v := PaV ⟨0, q + ek, mz, k⟩) (results_pa Tryz.results133 rfl Hset.out) rfl ⟨⟨k, hk, by rw [Hq.out]; omega, Hk0.out.imp id fun h => h.out, by rw [Hq.out, Hek.out, Hz.out, Hmz.out]⟩, Hbw2.out⟩
theorem ds_apartF : ∀ y z : Fin 30, y.1 < z.1 → dsBase y.1 + 2 ^ dsBits y.1 ≤ dsBase z.1 := by decide +kernel
theorem ds_apart (y z : Nat) (hy : y < 30) (hz : z < 30) : y < z → dsBase y + 2 ^ dsBits y ≤ dsBase z := ds_apartF ⟨y, hy⟩ ⟨z, hz⟩
theorem ln_keyF : ∀ (n : Fin 258) (k : Fin 6), 3 ≤ n.1 → (n.1 - 3) / 2 ^ k.1 < 8 → (k.1 = 0 ∨ 8 ≤ (n.1 - 3) / 2 ^ (k.1 - 1)) → (n.1 - 3) / 2 ^ k.1 + 4 * k.1 + 257 = lnSym n.1 ∧ (n.1 - 3) % 2 ^ k.1 = n.1 - lnBase (lnSym n.1) ∧ k.1 = lnBits (lnSym n.1) := by decide +kernel
theorem stp_of {n each k : Nat} (he : 0 < each) (h1 : n / 2 ^ k < 2 * each) (h2 : k = 0 ∨ 2 * each ≤ n / 2 ^ (k - 1)) : stpBase (n / 2 ^ k + each * k) each + n % 2 ^ k = n ∧ stpBits (n / 2 ^ k + each * k) each = k := by
  have hd := Nat.div_add_mod n (2 ^ k)
  rcases h2 with rfl | h2
  · simp only [Nat.pow_zero, Nat.div_one, Nat.mul_zero, Nat.add_zero, Nat.mod_one] at *
    unfold stpBase stpBits
    rw [if_pos h1, if_pos h1]
    exact ⟨rfl, rfl⟩
  · by_cases hk : k = 0
    · subst hk
      simp only [Nat.pow_zero, Nat.div_one, Nat.mul_zero, Nat.add_zero, Nat.mod_one] at *
      unfold stpBase stpBits
      rw [if_pos h1, if_pos h1]
      exact ⟨rfl, rfl⟩
    · obtain ⟨j, rfl⟩ : ∃ j, k = j + 1 := ⟨k - 1, by omega⟩
      rw [Nat.add_sub_cancel] at h2
      have hq : each ≤ n / 2 ^ (j + 1) := by
        rw [Nat.pow_succ, ← Nat.div_div_eq_div_mul]
        omega
      obtain ⟨r, hr⟩ : ∃ r, n / 2 ^ (j + 1) = each + r := ⟨n / 2 ^ (j + 1) - each, by omega⟩
      rw [hr] at h1 hd ⊢
      have hre : r < each := by omega
      have e1 : each + r + each * (j + 1) = r + each * (j + 2) := by rw [Nat.mul_add each j 1, Nat.mul_add each j 2]; omega
      have hdiv : (r + each * (j + 2)) / each = j + 2 := by rw [Nat.add_mul_div_left _ _ he, Nat.div_eq_of_lt hre, Nat.zero_add]
      have hmod : (r + each * (j + 2)) % each = r := by rw [Nat.add_mul_mod_self_left, Nat.mod_eq_of_lt hre]
      have hge : ¬ (r + each * (j + 2)) < 2 * each := by
        have : each * 2 ≤ each * (j + 2) := Nat.mul_le_mul_left _ (by omega)
        omega
      rw [e1]
      unfold stpBase stpBits
      rw [if_neg hge, if_neg hge, hdiv, hmod, show j + 2 - 1 = j + 1 by omega]
      refine ⟨?_, rfl⟩
      rw [Nat.mul_comm (each + r)]
      exact hd
theorem ds_pa {d k : Nat} (h1 : 1 ≤ d) (h2 : d ≤ 32768) (hk : k ≤ 14) (ha : (d - 1) / 2 ^ k < 2 * 2) (hb : k = 0 ∨ 2 * 2 ≤ (d - 1) / 2 ^ (k - 1)) : (d - 1) / 2 ^ k + 2 * k = dsSym d ∧ (d - 1) % 2 ^ k = d - dsBase (dsSym d) ∧ k = dsBits (dsSym d) := by
  obtain ⟨e1, e2⟩ := stp_of (by omega) ha hb
  obtain ⟨r1, r2, r3⟩ := dsSym_ok h1 h2
  have hz := Nat.mod_lt (d - 1) (Nat.two_pow_pos k)
  obtain ⟨y, hy⟩ : ∃ y, (d - 1) / 2 ^ k + 2 * k = y := ⟨_, rfl⟩
  rw [hy] at e1 e2 ⊢
  have b1 : dsBase y + (d - 1) % 2 ^ k = d := by unfold dsBase; omega
  have b2 : dsBits y = k := e2
  have hy32 : y < 32 := by omega
  have hy30 : y < 30 := by
    have : ∀ y, y < 32 → 30 ≤ y → 32769 ≤ dsBase y := by decide +kernel
    by_cases h : y < 30
    · exact h
    · have := this y hy32 (by omega)
      omega
  have e : y = dsSym d := by
    rcases Nat.lt_trichotomy y (dsSym d) with h | h | h
    · have := ds_apart _ _ hy30 (by omega) h
      rw [b2] at this
      omega
    · exact h
    · have := ds_apart _ _ (by omega) hy30 h
      omega
  subst e
  exact ⟨rfl, by omega, b2.symm⟩
theorem ln_pa {n k : Nat} (h1 : 3 ≤ n) (h2 : n < 258) (hk : k ≤ 14) (ha : (n - 3) / 2 ^ k < 2 * 4) (hb : k = 0 ∨ 2 * 4 ≤ (n - 3) / 2 ^ (k - 1)) : (n - 3) / 2 ^ k + 4 * k + 257 = lnSym n ∧ (n - 3) % 2 ^ k = n - lnBase (lnSym n) ∧ k = lnBits (lnSym n) := by
  have hk5 : k ≤ 5 := by
    rcases hb with rfl | hb
    · omega
    · by_cases h : k ≤ 5
      · exact h
      · exfalso
        have : (n - 3) / 2 ^ (k - 1) ≤ (n - 3) / 2 ^ 5 := Nat.div_le_div_left (Nat.pow_le_pow_right (by omega) (by omega)) (by decide)
        omega
  exact ln_keyF ⟨n, h2⟩ ⟨k, by omega⟩ h1 ha hb
theorem ln_258 : lnSym 258 = 285 ∧ 258 - lnBase 285 = 0 ∧ lnBits 285 = 0 := by decide +kernel
end Go.Proofs.YtoladolgmeanhaaGreat

/- deflate: how long a repetition is and how far ahead it stood, as parts. -/
namespace Go.Proofs.YtoladolgmeanhaaGreat
open Go.RowKit Go.Maps

def lnP (n : Nat) : Pa := ⟨0, lnSym n, n - lnBase (lnSym n), lnBits (lnSym n)⟩
def dsP (d : Nat) : Pa := ⟨1, dsSym d, d - dsBase (dsSym d), dsBits (dsSym d)⟩
set_option maxRecDepth 20000 in
set_option maxHeartbeats 4000000 in
theorem dlength_any (n : Nat) (w : World) (h1 : 3 ≤ n) (h2 : n ≤ 258) :
    Calls Tryz.prog 110 #[.int .i64 (n : Int)] w fun e w' => e = .returned (PaV (lnP n)) ∧ Below w.heap.size w w' := by
  go_enter Tryz.func110, Tryz.ntmps110
  by_cases h : n = 258
  · subst h
    have d0 : (((258 : Nat) : Int) == 258) = true := by decide
    go_wp2
    have hp := pa_new w ⟨0, 285, 0, 0⟩
    have e : lnP 258 = ⟨0, 285, 0, 0⟩ := by unfold lnP; obtain ⟨a, b, c⟩ := ln_258; rw [a, b, c]
    rw [e]
    exact bodyPost_ret (v := PaV ⟨0, 285, 0, 0⟩) (results_pa Tryz.results110 rfl hp) rfl ⟨rfl, Below.al1 w _⟩
  · have d0 : ((n : Int) == 258) = false := by simp; omega
    have hs : (n : Int) - 3 = ((n - 3 : Nat) : Int) := by omega
    have hp0 := pa_new w ⟨0, 0, 0, 0⟩
    have hb0 := Below.al1 w (.cells (paC ⟨0, 0, 0, 0⟩) 168)
    simp only [paC, Int.natCast_zero] at hp0 hb0
    go_upto_region 1 with (fail)
    generalize w.alloc (.cells #[.int .i64 0, .int .i64 0, .int .i64 0, .int .i64 0] 168) = w1 at *
    have Hb0 := Lib.hid hb0
    have hlt := lt_heap hp0
    clear hb0
    go_wp2_with fail
    refine Calls.mono (stepped_any (n - 3) 4 w1 (by omega) (by omega)) ?_
    rintro _ w2 ⟨⟨k, hk, ha, hb, rfl⟩, hb2⟩
    obtain ⟨e1, e2, e3⟩ := ln_pa h1 (by omega) hk ha hb
    have HE : Hid (lnP n = ⟨0, (n - 3) / 2 ^ k + 4 * k + 257, (n - 3) % 2 ^ k, k⟩) := Lib.hid (by unfold lnP; rw [e1, e2, ← e3])
    have hp2 := hp0.below hb2
    have Hb2 := Lib.hid (Below.thn Hb0.out hb2)
    obtain ⟨y, hy⟩ : ∃ y, (n - 3) / 2 ^ k + 4 * k = y := ⟨_, rfl⟩
    obtain ⟨mm, hmm⟩ : ∃ mm, (n - 3) % 2 ^ k = mm := ⟨_, rfl⟩
    rw [hy, hmm] at HE
    rw [hy, hmm]
    have hy285 : y ≤ 300 := by
      rw [hy] at e1
      have := (lnSym_ok n (by omega) h1).2.1
      omega
    have hlt2 : w.heap.size < w2.heap.size := Nat.lt_of_lt_of_le hlt hb2.size
    clear hy hmm e1 e2 e3 ha hb hb2 Hb0 hp0 hs
    go_upto_region 5 with (fail)
    have hq : PaAt (w2.alloc (.cells #[.int .i64 0, .int .i64 ((y : Int) + 257), .int .i64 (mm : Int), .int .i64 (k : Int)] 168)) w2.heap.size ⟨0, y + 257, mm, k⟩ := pa_new w2 ⟨0, y + 257, mm, k⟩
    have hbq := Below.al1 w2 (.cells #[.int .i64 0, .int .i64 ((y : Int) + 257), .int .i64 (mm : Int), .int .i64 (k : Int)] 168)
    generalize w2.alloc (.cells #[.int .i64 0, .int .i64 ((y : Int) + 257), .int .i64 (mm : Int), .int .i64 (k : Int)] 168) = w3 at *
    have hp3 := hp2.below hbq
    have Hb3 := Lib.hid (Below.thn Hb2.out hbq)
    obtain ⟨x0, x1, x2, x3⟩ := hq.c
    obtain ⟨v0, v1, v2, v3⟩ := hp3.c
    have y0 := hp3.f 0
    have y1 := hp3.f 1
    have y2 := hp3.f 2
    have y3 := hp3.f 3
    have HS := Lib.hid (hp3.set ⟨0, y + 257, mm, k⟩)
    have HbS := Lib.hid ((((Hb3.out.setCell (p := ⟨w.heap.size, 0, none⟩) (Nat.le_refl _) (.int .i64 ((0 : Nat) : Int))).setCell (p := ⟨w.heap.size, 1, none⟩) (Nat.le_refl _) (.int .i64 ((y + 257 : Nat) : Int))).setCell (p := ⟨w.heap.size, 2, none⟩) (Nat.le_refl _) (.int .i64 (mm : Int))).setCell (p := ⟨w.heap.size, 3, none⟩) (Nat.le_refl _) (.int .i64 (k : Int)))
    generalize w2.heap.size = B3 at *
    clear hq hbq hp3 hp2 hlt hlt2
    go_wp2
    rw [HE.out]
    exact bodyPost_ret (v := PaV ⟨0, y + 257, mm, k⟩) (results_pa Tryz.results110 rfl HS.out) rfl ⟨rfl, HbS.out⟩
set_option maxRecDepth 20000 in
set_option maxHeartbeats 4000000 in
theorem ddistance_any (n : Nat) (w : World) (h1 : 1 ≤ n) (h2 : n ≤ 32768) :
    Calls Tryz.prog 111 #[.int .i64 (n : Int)] w fun e w' => e = .returned (PaV (dsP n)) ∧ Below w.heap.size w w' := by
  go_enter Tryz.func111, Tryz.ntmps111
  have hs : (n : Int) - 1 = ((n - 1 : Nat) : Int) := by omega
  have hp0 := pa_new w ⟨0, 0, 0, 0⟩
  have hb0 := Below.al1 w (.cells (paC ⟨0, 0, 0, 0⟩) 168)
  simp only [paC, Int.natCast_zero] at hp0 hb0
  go_upto_region 1 with (fail)
  generalize w.alloc (.cells #[.int .i64 0, .int .i64 0, .int .i64 0, .int .i64 0] 168) = w1 at *
  have Hb0 := Lib.hid hb0
  clear hb0
  go_wp2_with fail
  refine Calls.mono (stepped_any (n - 1) 2 w1 (by omega) (by omega)) ?_
  rintro _ w2 ⟨⟨k, hk, ha, hb, rfl⟩, hb2⟩
  obtain ⟨e1, e2, e3⟩ := ds_pa h1 h2 hk ha hb
  have HE : Hid (dsP n = ⟨1, (n - 1) / 2 ^ k + 2 * k, (n - 1) % 2 ^ k, k⟩) := Lib.hid (by unfold dsP; rw [e1, e2, ← e3])
  have hp2 := hp0.below hb2
  have Hb2 := Lib.hid (Below.thn Hb0.out hb2)
  obtain ⟨y, hy⟩ : ∃ y, (n - 1) / 2 ^ k + 2 * k = y := ⟨_, rfl⟩
  obtain ⟨mm, hmm⟩ : ∃ mm, (n - 1) % 2 ^ k = mm := ⟨_, rfl⟩
  rw [hy, hmm] at HE
  rw [hy, hmm]
  clear hy hmm e1 e2 e3 ha hb hb2 Hb0 hp0 hs
  go_upto_region 3 with (fail)
  have hq := pa_new w2 ⟨1, y, mm, k⟩
  have hbq := Below.al1 w2 (.cells (paC ⟨1, y, mm, k⟩) 168)
  simp only [paC, Int.natCast_one] at hq hbq
  generalize w2.alloc (.cells #[.int .i64 1, .int .i64 (y : Int), .int .i64 (mm : Int), .int .i64 (k : Int)] 168) = w3 at *
  have hp3 := hp2.below hbq
  have Hb3 := Lib.hid (Below.thn Hb2.out hbq)
  obtain ⟨x0, x1, x2, x3⟩ := hq.c
  obtain ⟨v0, v1, v2, v3⟩ := hp3.c
  have y0 := hp3.f 0
  have y1 := hp3.f 1
  have y2 := hp3.f 2
  have y3 := hp3.f 3
  have HS := Lib.hid (hp3.set ⟨1, y, mm, k⟩)
  have HbS := Lib.hid ((((Hb3.out.setCell (p := ⟨w.heap.size, 0, none⟩) (Nat.le_refl _) (.int .i64 ((1 : Nat) : Int))).setCell (p := ⟨w.heap.size, 1, none⟩) (Nat.le_refl _) (.int .i64 (y : Int))).setCell (p := ⟨w.heap.size, 2, none⟩) (Nat.le_refl _) (.int .i64 (mm : Int))).setCell (p := ⟨w.heap.size, 3, none⟩) (Nat.le_refl _) (.int .i64 (k : Int)))
  generalize w2.heap.size = B3 at *
  clear hq hbq hp3 hp2
  go_wp2
  rw [HE.out]
  exact bodyPost_ret (v := PaV ⟨1, y, mm, k⟩) (results_pa Tryz.results111 rfl HS.out) rfl ⟨rfl, HbS.out⟩
end Go.Proofs.YtoladolgmeanhaaGreat

/- Slices of bytes, cells of blocks. Nothing here speaks of one program. -/
namespace Go.Proofs.YtoladolgmeanhaaGreat
open Go.RowKit

theorem cell_later {w w' : World} (hb : Below w.heap.size w w') {a : Addr} {v : Value} (h : w.cell? a = some v) : w'.cell? a = some v :=
  (hb.cell (World.block_lt_of_cell? _ _ h)).trans h
theorem own_at {w : World} {base : Nat} {e : TypeId} {v : Value} {n : Nat} {xs : List Value} (h : w.ownsRow base e 1 v n xs) {i : Nat} {u : Value} (hi : xs[i]? = some u) : ∃ g c, v = .slice (some ⟨g, 0, none⟩) n c ∧ base ≤ g ∧ g < w.heap.size ∧ w.cell? ⟨g, i, none⟩ = some u ∧ w.frozen? ⟨g, i, none⟩ = false := by
  have hl := h.1
  have hlt := (List.getElem?_eq_some_iff.1 hi).1
  rcases h.2 with ⟨rfl, h0⟩ | ⟨g, cap, cur, rfl, hg, hh, -⟩
  · omega
  · exact ⟨g, cap, rfl, hg, lt_heap hh, by rw [h.cellAt i (by omega)]; exact hi, h.frozenAt i⟩
theorem owns_base {w : World} {B B' : Nat} {e : TypeId} {size : Nat} {v : Value} {n : Nat} {xs : List Value} (h : w.ownsRow B e size v n xs) (hb : B' ≤ B) : w.ownsRow B' e size v n xs :=
  ⟨h.1, h.2.imp id fun ⟨g, cap, cur, a, b, c⟩ => ⟨g, cap, cur, a, Nat.le_trans hb b, c⟩⟩
end Go.Proofs.YtoladolgmeanhaaGreat

/- lz's search: match, next, rarest, size, mayBe. -/
namespace Go.Proofs.YtoladolgmeanhaaGreat
open Go.RowKit

def encH (x : Nat) : List Value := [.int .u16 (x : Int)]
theorem encH_len (x : Nat) : (encH x).length = 1 := rfl
theorem RowAt.half {W : World} {p : Option Addr} {xs : List Nat} (h : RowAt encH 1 W p xs) {k : Nat} (hk : k < xs.length) : ∃ b off, p = some ⟨b, off, none⟩ ∧ W.cell? ⟨b, off + k, none⟩ = some (.int .u16 (fb xs k : Int)) := by
  rcases h with ⟨-, rfl⟩ | ⟨b, off, rfl, -, h⟩
  · simp at hk
  · refine ⟨b, off, rfl, ?_⟩
    have := h k xs[k] (List.getElem?_eq_getElem hk) 0 _ rfl
    rw [fb_at hk]
    simpa using this
theorem RowAt.byteF {W : World} {p : Option Addr} {xs : List Nat} (h : RowAt enc8 1 W p xs) {k : Nat} (hk : k < xs.length) : ∃ b off, p = some ⟨b, off, none⟩ ∧ W.cell? ⟨b, off + k, none⟩ = some (.int .u8 (fb xs k : Int)) := h.byte hk
set_option maxRecDepth 20000 in
set_option maxHeartbeats 1000000 in
theorem srMatch_any (l : List Nat) (vb va : Value) (a d m : Nat) (w : World) (hv : Row enc8 1 w vb l) (hva : ∃ p n c, va = .slice p n c) (h1 : 1 ≤ d) (hd : d ≤ a) (hm : a + m ≤ l.length) (hl : l.length ≤ 1048576) :
    Calls Tryz.prog 75 #[.agg #[vb, va], .int .i64 (a : Int), .int .i64 (d : Int), .int .i64 (m : Int)] w fun e w' => ∃ n : Nat, e = .returned (.int .i64 (n : Int)) ∧ IsRun (fb l) a d m n ∧ Below w.heap.size w w' := by
  obtain ⟨p, c, rfl, -, -, hrow⟩ := hv
  obtain ⟨pa, na, ca, rfl⟩ := hva
  have Hrow := Lib.hid hrow
  clear hrow
  obtain ⟨W, hW⟩ : ∃ W, w.alloc (.cells #[.slice p l.length c, .slice pa na ca] 69) = W := ⟨_, rfl⟩
  have hb0 : Below w.heap.size w W := by rw [← hW]; exact Below.al1 w _
  have hc0 : W.cell? ⟨w.heap.size, 0, none⟩ = some (.slice p l.length c) := by rw [← hW]; exact cell_at rfl rfl
  have Hb0 := Lib.hid hb0
  have Hc0 := Lib.hid hc0
  have HW := Lib.hid hW
  clear hb0 hc0 hW
  go_enter Tryz.func75, Tryz.ntmps75
  go_wp2
  rw [HW.out]
  go_loopw [9] (fun nv wr => ∃ n : Nat, nv = .int .i64 (n : Int) ∧ n ≤ m ∧ Hid (∀ j, j < n → fb l (a + j) = fb l (a + j - d)) ∧ Hid (Below W.heap.size W wr)) (fun nv _ => m - (intOf nv).toNat)
  case atStart => exact ⟨0, rfl, Nat.zero_le _, Lib.hid fun j h => by omega, Lib.hid (Below.refl _ _)⟩
  case round =>
    obtain ⟨n, rfl, hn, HN, HB⟩ := hrel
    have c0 := cell_later HB.out Hc0.out
    by_cases hlt : n < m
    · have d0 : decide ((n : Int) < (m : Int)) = true := by simp; omega
      have hBw := Below.thn Hb0.out HB.out
      obtain ⟨s, hs⟩ : ∃ s, a + n = s := ⟨_, rfl⟩
      obtain ⟨t, ht⟩ : ∃ t, s - d = t := ⟨_, rfl⟩
      obtain ⟨g, off, rfl, hx⟩ := Hrow.out.byteF (k := s) (by omega)
      obtain ⟨g', off', e, hy⟩ := Hrow.out.byteF (k := t) (by omega)
      cases e
      have hx := cell_later hBw hx
      have hy := cell_later hBw hy
      have es : (a : Int) + (n : Int) = (s : Int) := by omega
      have et : (s : Int) - (d : Int) = (t : Int) := by omega
      have s0 : (0 : Int) ≤ (s : Int) := by omega
      have s1 : (s : Int) < (l.length : Int) := by omega
      have t0 : (0 : Int) ≤ (t : Int) := by omega
      have t1 : (t : Int) < (l.length : Int) := by omega
      have Hs := Lib.hid (And.intro hs ht)
      obtain ⟨x, hxx⟩ : ∃ x, fb l s = x := ⟨_, rfl⟩
      obtain ⟨y, hyy⟩ : ∃ y, fb l t = y := ⟨_, rfl⟩
      rw [hxx] at hx
      rw [hyy] at hy
      have Hxy := Lib.hid (And.intro hxx hyy)
      clear hBw hs ht hxx hyy
      by_cases hxy : x = y
      · subst hxy
        have e0 : ((x : Int) == (x : Int)) = true := by simp
        go_wp2_with fail
        go_quiet (fail)
        have hdr : Below wr.heap.size wr (wr.drewN nq) := Below.drewN' (Below.refl _ _) nq
        have HB2 := Lib.hid (Below.thn HB.out hdr)
        generalize wr.drewN nq = W2 at *
        clear hdr c0 hx hy
        go_wp2
        go_roundw
        case rel => exact ⟨n + 1, by go_num, by omega, Lib.hid fun j hj => by
          rcases Nat.lt_or_ge j n with h | h
          · exact HN.out j h
          · obtain rfl : j = n := by omega
            rw [Hs.out.1, Hs.out.2, Hxy.out.1, Hxy.out.2], HB2⟩
        case measure => simp [intOf]; omega
      · have e0 : ((x : Int) == (y : Int)) = false := by simp; omega
        go_wp2_with fail
        go_quiet (fail)
        have hdr : Below wr.heap.size wr (wr.drewN nq) := Below.drewN' (Below.refl _ _) nq
        have HB2 := Lib.hid (Below.thn (Below.thn Hb0.out HB.out) hdr)
        generalize wr.drewN nq = W2 at *
        clear hdr c0 hx hy
        go_wp2
        go_ret
        exact ⟨n, rfl, ⟨hn, HN.out, fun _ => by rw [Hs.out.1, Hs.out.2, Hxy.out.1, Hxy.out.2]; exact hxy⟩, HB2.out⟩
    · obtain rfl : n = m := by omega
      have d0 : decide ((n : Int) < (n : Int)) = false := by simp
      go_wp2_with fail
      go_quiet (fail)
      have hdr : Below wr.heap.size wr (wr.drewN nq) := Below.drewN' (Below.refl _ _) nq
      have HB2 := Lib.hid (Below.thn (Below.thn Hb0.out HB.out) hdr)
      generalize wr.drewN nq = W2 at *
      clear hdr c0
      go_wp2
      go_ret
      exact ⟨n, rfl, ⟨Nat.le_refl _, HN.out, fun h => by omega⟩, HB2.out⟩
end Go.Proofs.YtoladolgmeanhaaGreat

/- lz's search: next, rarest; size, mayBe. -/
namespace Go.Proofs.YtoladolgmeanhaaGreat
open Go.RowKit

def nextN (hop dist : Nat) : Nat := if hop = 0 ∨ 32768 < dist + hop then 0 else dist + hop
set_option maxRecDepth 20000 in
set_option maxHeartbeats 1000000 in
theorem srNext_any (A : List Nat) (vb va : Value) (fr dist : Nat) (w : World) (hva : Row encH 1 w va A) (hvb : ∃ p n c, vb = .slice p n c) (h1 : dist ≤ fr) (h2 : fr - dist < A.length) (hA : fb A (fr - dist) ≤ 32768) (hd : dist ≤ 32768) (hfr : fr ≤ 1048576) :
    Calls Tryz.prog 76 #[.agg #[vb, va], .int .i64 (fr : Int), .int .i64 (dist : Int)] w fun e w' => e = .returned (.int .i64 ((nextN (fb A (fr - dist)) dist : Nat) : Int)) ∧ Below w.heap.size w w' := by
  obtain ⟨p, c, rfl, -, -, hrow⟩ := hva
  obtain ⟨pb, nb, cb, rfl⟩ := hvb
  obtain ⟨W, hW⟩ : ∃ W, w.alloc (.cells #[.slice pb nb cb, .slice p A.length c] 69) = W := ⟨_, rfl⟩
  have hb0 : Below w.heap.size w W := by rw [← hW]; exact Below.al1 w _
  have hc0 : W.cell? ⟨w.heap.size, 1, none⟩ = some (.slice p A.length c) := by rw [← hW]; exact cell_at rfl rfl
  obtain ⟨t, ht⟩ : ∃ t, fr - dist = t := ⟨_, rfl⟩
  rw [ht] at h2 hA ⊢
  obtain ⟨g, off, rfl, hx⟩ := hrow.half h2
  have hx := cell_later hb0 hx
  obtain ⟨x, hxx⟩ : ∃ x, fb A t = x := ⟨_, rfl⟩
  rw [hxx] at hx hA ⊢
  have et : (fr : Int) - (dist : Int) = (t : Int) := by omega
  have t0 : (0 : Int) ≤ (t : Int) := by omega
  have t1 : (t : Int) < (A.length : Int) := by omega
  have Hb0 := Lib.hid hb0
  obtain ⟨z, hzz⟩ : ∃ z, dist + x = z := ⟨_, rfl⟩
  have ed : (dist : Int) + (x : Int) = (z : Int) := by omega
  have Hzz := Lib.hid hzz
  clear hb0 hrow hxx ht hzz
  subst hW
  by_cases hz : x = 0
  · have e0 : ((x : Int) == 0) = true := by simp; omega
    have hn : nextN x dist = 0 := by unfold nextN; rw [if_pos (.inl hz)]
    rw [hn]
    clear hn hz
    go_enter Tryz.func76, Tryz.ntmps76
    go_wp2
    go_ret
    exact ⟨rfl, Hb0.out⟩
  · have e0 : ((x : Int) == 0) = false := by simp; omega
    by_cases hf : 32768 < z
    · have e1 : decide ((z : Int) > 32768) = true := by simp; omega
      have hn : nextN x dist = 0 := by unfold nextN; rw [Hzz.out, if_pos (.inr hf)]
      rw [hn]
      clear hn hz
      go_enter Tryz.func76, Tryz.ntmps76
      go_wp2
      go_ret
      exact ⟨rfl, Hb0.out⟩
    · have e1 : decide ((z : Int) > 32768) = false := by simp; omega
      have hn : nextN x dist = z := by unfold nextN; rw [Hzz.out, if_neg (by omega)]
      rw [hn]
      clear hn hz
      go_enter Tryz.func76, Tryz.ntmps76
      go_wp2
      go_ret
      exact ⟨rfl, Hb0.out⟩
set_option maxRecDepth 20000 in
set_option maxHeartbeats 1000000 in
theorem srRarest_any (A : List Nat) (vb va : Value) (fr tt : Nat) (w : World) (hva : Row encH 1 w va A) (hvb : ∃ p n c, vb = .slice p n c) (h1 : fr ≤ tt) (h2 : tt < A.length) (hto : A.length ≤ 1048576) :
    Calls Tryz.prog 77 #[.agg #[vb, va], .int .i64 (fr : Int), .int .i64 (tt : Int)] w fun e w' => ∃ r : Nat, e = .returned (.int .i64 (r : Int)) ∧ fr ≤ r ∧ r ≤ tt ∧ Below w.heap.size w w' := by
  obtain ⟨p, c, rfl, -, -, hrow⟩ := hva
  obtain ⟨pb, nb, cb, rfl⟩ := hvb
  obtain ⟨W, hW⟩ : ∃ W, w.alloc (.cells #[.slice pb nb cb, .slice p A.length c] 69) = W := ⟨_, rfl⟩
  have hb0 : Below w.heap.size w W := by rw [← hW]; exact Below.al1 w _
  have hc0 : W.cell? ⟨w.heap.size, 1, none⟩ = some (.slice p A.length c) := by rw [← hW]; exact cell_at rfl rfl
  have Hb0 := Lib.hid hb0
  have Hc0 := Lib.hid hc0
  have HW := Lib.hid hW
  have Hrow := Lib.hid hrow
  clear hb0 hc0 hW hrow
  go_enter Tryz.func77, Tryz.ntmps77
  go_wp2
  rw [HW.out]
  go_loopw [7, 8] (fun rv iv wr => ∃ r i : Nat, rv = .int .i64 (r : Int) ∧ iv = .int .i64 (i : Int) ∧ fr ≤ r ∧ r ≤ tt ∧ fr ≤ i ∧ i ≤ tt + 1 ∧ Hid (Below W.heap.size W wr)) (fun _ iv _ => tt + 1 - (intOf iv).toNat)
  case atStart => exact ⟨fr, fr, rfl, rfl, Nat.le_refl _, h1, Nat.le_refl _, by omega, Lib.hid (Below.refl _ _)⟩
  case round =>
    obtain ⟨r, i, rfl, rfl, hr1, hr2, hi1, hi2, HB⟩ := hrel
    have c0 := cell_later HB.out Hc0.out
    by_cases hlt : i ≤ tt
    · have d0 : decide ((i : Int) ≤ (tt : Int)) = true := by simp; omega
      have hBw := Below.thn Hb0.out HB.out
      obtain ⟨g, off, rfl, hx⟩ := Hrow.out.half (k := i) (by omega)
      obtain ⟨g', off', e, hy⟩ := Hrow.out.half (k := r) (by omega)
      cases e
      have hx := cell_later hBw hx
      have hy := cell_later hBw hy
      have s0 : (0 : Int) ≤ (i : Int) := by omega
      have s1 : (i : Int) < (A.length : Int) := by omega
      have t0 : (0 : Int) ≤ (r : Int) := by omega
      have t1 : (r : Int) < (A.length : Int) := by omega
      generalize fb A i = x at *
      generalize fb A r = y at *
      clear hBw
      by_cases hz : x = 0
      · have e0 : ((x : Int) == 0) = true := by simp; omega
        clear hz
        go_wp2
        go_ret
        exact ⟨i, rfl, hi1, hlt, Below.thn Hb0.out HB.out⟩
      · have e0 : ((x : Int) == 0) = false := by simp; omega
        by_cases hxy : y < x
        · have e1 : decide ((x : Int) > (y : Int)) = true := by simp; omega
          go_wp2_with fail
          go_quiet (fail)
          have hdr : Below wr.heap.size wr (wr.drewN nq) := Below.drewN' (Below.refl _ _) nq
          have HB2 := Lib.hid (Below.thn HB.out hdr)
          generalize wr.drewN nq = W2 at *
          clear hdr c0 hx hy
          go_wp2
          go_roundw
          case rel => exact ⟨i, i + 1, rfl, by go_num, hi1, hlt, by omega, by omega, HB2⟩
          case measure => simp [intOf]; omega
        · have e1 : decide ((x : Int) > (y : Int)) = false := by simp; omega
          go_wp2_with fail
          go_quiet (fail)
          have hdr : Below wr.heap.size wr (wr.drewN nq) := Below.drewN' (Below.refl _ _) nq
          have HB2 := Lib.hid (Below.thn HB.out hdr)
          generalize wr.drewN nq = W2 at *
          clear hdr c0 hx hy
          go_wp2
          go_roundw
          case rel => exact ⟨r, i + 1, rfl, by go_num, hr1, hr2, by omega, by omega, HB2⟩
          case measure => simp [intOf]; omega
    · have d0 : decide ((i : Int) ≤ (tt : Int)) = false := by simp; omega
      go_wp2
      go_ret
      exact ⟨r, rfl, hr1, hr2, Below.thn Hb0.out HB.out⟩
def tkV (t : Tk) : Value := .agg #[.int .u8 (t.b : Int), .int .i64 t.n, .int .i64 t.d]
def encT (t : Tk) : List Value := [.int .u8 (t.b : Int), .int .i64 t.n, .int .i64 t.d]
theorem encT_len (t : Tk) : (encT t).length = 3 := rfl
theorem size_any (t : Tk) (w : World) (hn : t.n ≤ 1000) :
    Makes Tryz.prog 42 #[tkV t] w (.int .i64 ((t.size : Nat) : Int)) := by
  unfold Makes
  obtain ⟨b, n, d⟩ := t
  unfold tkV
  simp only at hn ⊢
  have hs : ((Tk.size ⟨b, n, d⟩ : Nat) : Int) = max n 1 := by unfold Tk.size; simp only; omega
  rw [hs]
  clear hs
  go_enter Tryz.func42, Tryz.ntmps42
  go_wp2
  all_goals
    go_ret
    exact ⟨ret_int (by omega), Below.al1 w _⟩
end Go.Proofs.YtoladolgmeanhaaGreat
