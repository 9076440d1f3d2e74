/- Several texts in one, each with its own head. -/
import Derived.Test.YtebfdoipogjpnaaGreatQd29
import Derived.Test.YtebfdoipogjpnaaGreatQd32
import Derived.Test.YtebfdoipogjpnaaGreatQd34
import Derived.Test.YtebfdoipogjpnaaGreatQd26
/- deflate: how many lengths are alike from a place on, and what tells them. -/
namespace Go.Proofs.YtebfdoipogjpnaaGreat
open Go.RowKit Go.Maps

/-- So many of l are as the first one, up to one that is not. -/
def lk : List Nat → Nat
  | [] => 0
  | v :: r => 1 + (r.takeWhile fun x => decide (x = v)).length
theorem tw_len (v : Nat) : ∀ (r : List Nat) (k : Nat), k ≤ r.length → (∀ i, i < k → lq r i = v) → (k < r.length → lq r k ≠ v) → (r.takeWhile fun x => decide (x = v)).length = k
  | [], k, h, _, _ => by simp at h; subst h; rfl
  | x :: r, 0, _, _, h => by
    have h1 : x ≠ v := h (by simp)
    simp [h1]
  | x :: r, k + 1, h, h1, h2 => by
    have e : x = v := h1 0 (by omega)
    subst e
    rw [List.takeWhile_cons_of_pos (by simp), List.length_cons, tw_len x r k (by simpa using h) (fun i hi => h1 (i + 1) (by omega)) (fun hk => h2 (by simpa using hk))]
theorem lk_of {l : List Nat} {k : Nat} (h0 : 1 ≤ k) (h : k ≤ l.length) (h1 : ∀ i, i < k → lq l i = lq l 0) (h2 : k < l.length → lq l k ≠ lq l 0) : lk l = k := by
  cases l with
  | nil => simp at h; omega
  | cons v r =>
    obtain ⟨j, rfl⟩ : ∃ j, k = j + 1 := ⟨k - 1, by omega⟩
    show 1 + (r.takeWhile fun x => decide (x = v)).length = j + 1
    rw [tw_len v r j (by simpa using h) (fun i hi => h1 (i + 1) (by omega)) (fun hj => h2 (by simpa using hj))]
    omega

set_option maxRecDepth 20000 in
set_option maxHeartbeats 4000000 in
theorem like_any (g off c : Nat) (l : List Nat) (w : World) (h0 : 0 < l.length) (hl : l.length ≤ 1048576) (hc : ∀ i, i < l.length → w.cell? ⟨g, off + i, none⟩ = some (.int .u8 ((lq l i : Nat) : Int))) :
    Calls Tryz.prog 203 #[.slice (some ⟨g, off, none⟩) l.length c] w fun e w' => e = .returned (.int .i64 (lk l : Int)) ∧ Below w.heap.size w w' := by
  have Hc := Lib.hid hc
  have Hlk := Lib.hid (fun k => lk_of (l := l) (k := k))
  obtain ⟨n, hn⟩ : ∃ n, l.length = n := ⟨_, rfl⟩
  rw [hn] at h0 hl Hc Hlk ⊢
  clear hc hn
  go_enter Tryz.func203, Tryz.ntmps203
  go_wp2
  go_loopw [3] (fun kv wr => ∃ k : Nat, kv = .int .i64 (k : Int) ∧ 1 ≤ k ∧ k ≤ n ∧ Hid (∀ i, i < k → lq l i = lq l 0) ∧ Hid (Below w.heap.size w wr)) (fun kv _ => n - (intOf kv).toNat)
  case atStart => exact ⟨1, rfl, by omega, by omega, Lib.hid (fun i hi => by rw [show i = 0 by omega]), Lib.hid (Below.refl _ _)⟩
  case round =>
    obtain ⟨k, rfl, hk1, hk, HA, HB⟩ := hrel
    by_cases hkn : k < n
    · have d1 : decide ((k : Int) < (n : Int)) = true := by simp; omega
      have c0 := cell_later HB.out (Hc.out k hkn)
      have c1 := cell_later HB.out (Hc.out 0 (by omega))
      rw [Nat.add_zero] at c1
      obtain ⟨x, hx⟩ : ∃ x, lq l k = x := ⟨_, rfl⟩
      obtain ⟨y, hy⟩ : ∃ y, lq l 0 = y := ⟨_, rfl⟩
      rw [hx] at c0
      rw [hy] at c1
      have Hx := Lib.hid hx
      have Hy := Lib.hid hy
      have i0 : (0 : Int) ≤ (k : Int) := by omega
      have i1 : (k : Int) < (n : Int) := by omega
      have i2 : (0 : Int) < (n : Int) := by omega
      clear hx hy
      by_cases hxy : x = y
      · have d2 : ((x : Int) == (y : Int)) = true := by simp; omega
        go_upto_region 2 with (fail)
        go_quiet (fail)
        rename_i nq
        have HB2 := Lib.hid (Below.drewN' HB.out nq)
        generalize wr.drewN nq = W2 at *
        clear c0 c1
        go_wp2
        go_roundw
        case rel => exact ⟨k + 1, by go_num, by omega, by omega, Lib.hid (fun i hi => by
          by_cases h : i < k
          · exact HA.out i h
          · rw [show i = k by omega, Hx.out, Hy.out, hxy]), HB2⟩
        case measure => simp [intOf]; omega
      · have d2 : ((x : Int) == (y : Int)) = false := by simp; omega
        have he := Lib.hid (Hlk.out k hk1 hk HA.out (fun _ => by rw [Hx.out, Hy.out]; exact hxy))
        go_upto_region 2 with (fail)
        go_quiet (fail)
        rename_i nq
        have HB2 := Lib.hid (Below.drewN' HB.out nq)
        generalize wr.drewN nq = W2 at *
        clear c0 c1
        go_wp2
        go_ret
        exact ⟨by have := he.out; simp [this], HB2.out⟩
    · obtain rfl : k = n := by omega
      have d1 : decide ((k : Int) < (k : Int)) = false := by simp
      have he := Lib.hid (Hlk.out k hk1 (Nat.le_refl _) HA.out (fun h => absurd h (Nat.lt_irrefl _)))
      go_upto_region 2 with (fail)
      go_quiet (fail)
      rename_i nq
      have HB2 := Lib.hid (Below.drewN' HB.out nq)
      generalize wr.drewN nq = W2 at *
      go_wp2
      go_ret
      exact ⟨by have := he.out; simp [this], HB2.out⟩

/-- What tells lengths from a place on, and how many: they are x, so many, and the one ahead is y. -/
def rnQ (x k y a : Nat) : Pa × Nat :=
  if x = 0 ∧ 11 ≤ k then (⟨0, 18, min k 138 - 11, 7⟩, min k 138)
  else if x = 0 ∧ 3 ≤ k then (⟨0, 17, k - 3, 3⟩, k)
  else if 3 ≤ k ∧ 0 < a ∧ x = y then (⟨0, 16, min k 6 - 3, 2⟩, min k 6)
  else (⟨0, x, 0, 0⟩, 1)
def rnP (l : List Nat) (a : Nat) : Pa × Nat := rnQ (lq l a) (lk (l.drop a)) (lq l (a - 1)) a
theorem lk_le : ∀ l : List Nat, lk l ≤ l.length
  | [] => Nat.le_refl _
  | v :: r => by
    show 1 + (r.takeWhile fun x => decide (x = v)).length ≤ r.length + 1
    have : (r.takeWhile fun x => decide (x = v)).length ≤ r.length := (List.takeWhile_sublist _).length_le
    omega

theorem results_pa2 {fn : Func} {p q : Tmp} {tmps : Array Value} {w : World} {B : Nat} {r : Pa} {v : Value} (h : fn.results = #[.cell p 174, .tmp q]) (hp : tmps.getD p undef = .pointer (some ⟨B, 0, none⟩)) (hq : tmps.getD q undef = v) (hl : PaAt w B r) : (results fn tmps).run Tryz.prog w = .ok (.tuple #[PaV r, v]) w := by
  obtain ⟨c0, c1, c2, c3⟩ := hl.c
  have hp' : tmps[p]?.getD undef = .pointer (some ⟨B, 0, none⟩) := by simpa using hp
  have hq' : tmps[q]?.getD undef = v := by simpa using hq
  simp [results, h, hp', hq', go_sem, c0, c1, c2, c3]

theorem min_D (ts : Array TypeId) (t : TypeId) (k k' : IntKind) (x y : Int) (w : World) : (Builtin.min_ ts t #[.int k x, .int k' y]).run Tryz.prog w = .ok (.int k (min x y)) w := by
  rw [run_min_int2]; congr 2; split <;> omega
theorem lq_drop (l : List Nat) (a i : Nat) : lq (l.drop a) i = lq l (a + i) := by
  unfold lq
  rw [List.getD_eq_getElem?_getD, List.getD_eq_getElem?_getD, List.getElem?_drop]

set_option maxRecDepth 20000 in
set_option maxHeartbeats 8000000 in
theorem run_any (g off c a : Nat) (l : List Nat) (w : World) (ha : a < l.length) (hlc : l.length ≤ c) (hl : l.length ≤ 1048576) (h8 : ∀ i, lq l i < 256) (hc : ∀ i, i < l.length → w.cell? ⟨g, off + i, none⟩ = some (.int .u8 ((lq l i : Nat) : Int))) :
    Calls Tryz.prog 168 #[.slice (some ⟨g, off, none⟩) l.length c, .int .i64 (a : Int)] w fun e w' => e = .returned (.tuple #[PaV (rnP l a).1, .int .i64 ((rnP l a).2 : Int)]) ∧ Below w.heap.size w w' := by
  have Hc := Lib.hid hc
  have hcall := fun (W : World) (hb : Below w.heap.size w W) => like_any g (off + a) (c - a) (l.drop a) W (by rw [List.length_drop]; omega) (by rw [List.length_drop]; omega) (fun i hi => by
    rw [List.length_drop] at hi
    rw [lq_drop, Nat.add_assoc]
    exact cell_later hb (hc (a + i) (by omega)))
  rw [List.length_drop] at hcall
  have Hcall := Lib.hid hcall
  have hkl : lk (l.drop a) ≤ 1048576 := by
    have := lk_le (l.drop a)
    rw [List.length_drop] at this
    omega
  have hR0 : rnP l a = rnQ (lq l a) (lk (l.drop a)) (lq l (a - 1)) a := rfl
  obtain ⟨k, hk⟩ : ∃ k, lk (l.drop a) = k := ⟨_, rfl⟩
  obtain ⟨x, hx⟩ : ∃ x, lq l a = x := ⟨_, rfl⟩
  obtain ⟨y, hy⟩ : ∃ y, lq l (a - 1) = y := ⟨_, rfl⟩
  have hx8 := h8 a
  have hy8 := h8 (a - 1)
  rw [hk, hx, hy] at hR0
  rw [hk] at hkl
  rw [hk] at Hcall
  rw [hx] at hx8
  rw [hy] at hy8
  have c0 := hc a ha
  rw [hx] at c0
  have d0 := hc (a - 1) (by omega)
  rw [hy] at d0
  have hR := Lib.hid hR0
  clear hR0
  obtain ⟨n, hn⟩ : ∃ n, l.length = n := ⟨_, rfl⟩
  have Hn := Lib.hid hn
  rw [hn] at ha hlc hl Hcall ⊢
  have hsl := slice_loD g off n c a (by omega) (by omega)
  have s0 : (0 : Int) ≤ (a : Int) := by omega
  have s1 : (a : Int) < (n : Int) := by omega
  clear hc hcall hk hx hy hn
  go_enter Tryz.func168, Tryz.ntmps168
  have hp0 := pa_new w ⟨0, 0, 0, 0⟩
  have hb0 := Below.al1 w (.cells (paC ⟨0, 0, 0, 0⟩) 174)
  simp only [paC, Int.natCast_zero] at hp0 hb0
  go_upto_region 1 with (fail)
  generalize w.alloc (.cells #[.int .i64 0, .int .i64 0, .int .i64 0, .int .i64 0] 174) = w1 at *
  go_wp2_with fail
  refine Calls.mono (Hcall.out w1 hb0) ?_
  rintro _ w2 ⟨rfl, hb2⟩
  have hp2 := hp0.below hb2
  have hb3 := Below.thn hb0 hb2
  have c2 := cell_later hb3 c0
  have d2 := cell_later hb3 d0
  have HB := Lib.hid hb3
  obtain ⟨v0, v1, v2, v3⟩ := hp2.c
  have y0 := hp2.f 0
  have y1 := hp2.f 1
  have y2 := hp2.f 2
  have y3 := hp2.f 3
  have HP := Lib.hid hp2
  have hSet : Hid (∀ r : Pa, Below w.heap.size w ((((w2.setCell ⟨w.heap.size, 0, none⟩ (.int .i64 (r.c : Int))).setCell ⟨w.heap.size, 1, none⟩ (.int .i64 (r.s : Int))).setCell ⟨w.heap.size, 2, none⟩ (.int .i64 (r.m : Int))).setCell ⟨w.heap.size, 3, none⟩ (.int .i64 (r.z : Int)))) := Lib.hid (fun r =>
    (((hb3.setCell (Nat.le_refl _) _).setCell (Nat.le_refl _) _).setCell (Nat.le_refl _) _).setCell (Nat.le_refl _) _)
  clear hp0 hb0 hb2 hb3 hp2 Hcall c0 d0
  by_cases hA : x = 0 ∧ 11 ≤ k
  · have e := hR.out
    unfold rnQ at e
    rw [if_pos hA] at e
    obtain ⟨h1, h2⟩ := hA
    have HE := Lib.hid e
    obtain ⟨m, hm⟩ : ∃ m, min k 138 = m := ⟨_, rfl⟩
    rw [hm] at HE
    have em : ∀ (ts : Array TypeId) (t : TypeId) (w : World), (Builtin.min_ ts t #[.int .i64 (k : Int), .int .i64 138]).run Tryz.prog w = .ok (.int .i64 (m : Int)) w := fun ts t w => by
      rw [min_D, show min (k : Int) 138 = (m : Int) by omega]
    have hm1 : (m : Int) - 11 = ((m - 11 : Nat) : Int) := by omega
    have b1 : ((x : Int) == 0) = true := by simp; omega
    have b2 : decide ((k : Int) ≥ 11) = true := by simp; omega
    have hm2 : m ≤ 138 := by omega
    subst h1
    clear e hR hm
    go_wp2_with fail
    rw [HE.out]
    exact bodyPost_ret (v := .tuple #[PaV ⟨0, 18, m - 11, 7⟩, .int .i64 (m : Int)]) (results_pa2 Tryz.results168 rfl rfl (HP.out.set ⟨0, 18, m - 11, 7⟩)) rfl ⟨rfl, hSet.out ⟨0, 18, m - 11, 7⟩⟩
  by_cases hB : x = 0 ∧ 3 ≤ k
  · have e := hR.out
    unfold rnQ at e
    rw [if_neg hA, if_pos hB] at e
    obtain ⟨h1, h2⟩ := hB
    have HE := Lib.hid e
    have hm1 : (k : Int) - 3 = ((k - 3 : Nat) : Int) := by omega
    have b1 : ((x : Int) == 0) = true := by simp; omega
    have b2 : decide ((k : Int) ≥ 11) = false := by simp; omega
    have b3 : decide ((k : Int) ≥ 3) = true := by simp; omega
    subst h1
    clear e hR
    go_wp2_with fail
    rw [HE.out]
    exact bodyPost_ret (v := .tuple #[PaV ⟨0, 17, k - 3, 3⟩, .int .i64 (k : Int)]) (results_pa2 Tryz.results168 rfl rfl (HP.out.set ⟨0, 17, k - 3, 3⟩)) rfl ⟨rfl, hSet.out ⟨0, 17, k - 3, 3⟩⟩
  have hN : x ≠ 0 ∨ k < 3 := by omega
  by_cases hC : 3 ≤ k ∧ 0 < a ∧ x = y
  · have e := hR.out
    unfold rnQ at e
    rw [if_neg hA, if_neg hB, if_pos hC] at e
    obtain ⟨h1, h2, h3⟩ := hC
    have HE := Lib.hid e
    obtain ⟨m, hm⟩ : ∃ m, min k 6 = m := ⟨_, rfl⟩
    rw [hm] at HE
    have em : ∀ (ts : Array TypeId) (t : TypeId) (w : World), (Builtin.min_ ts t #[.int .i64 (k : Int), .int .i64 6]).run Tryz.prog w = .ok (.int .i64 (m : Int)) w := fun ts t w => by
      rw [min_D, show min (k : Int) 6 = (m : Int) by omega]
    have hm1 : (m : Int) - 3 = ((m - 3 : Nat) : Int) := by omega
    have hm2 : m ≤ 6 := by omega
    have b1 : ((x : Int) == 0) = false := by simp; omega
    have b3 : decide ((k : Int) ≥ 3) = true := by simp; omega
    have b4 : decide ((a : Int) > 0) = true := by simp; omega
    have b5 : ((x : Int) == (y : Int)) = true := by simp; omega
    have ha1 : IntKind.i64.wrap ((a : Int) - 1) = ((a - 1 : Nat) : Int) := by rw [IntWalk.i64_in _ (by omega)]; omega
    have ha2 : (a : Int) - 1 = ((a - 1 : Nat) : Int) := by omega
    have t0 : (0 : Int) ≤ ((a - 1 : Nat) : Int) := by omega
    have t1 : ((a - 1 : Nat) : Int) < (n : Int) := by omega
    clear e hR hm
    go_upto_region 7 with (fail)
    go_quiet (fail)
    rename_i nq
    have HP2 := HP.out.below (Below.drewN' (Below.refl _ w2) nq)
    have hS2 : Hid (∀ r : Pa, Below w.heap.size w (((((w2.drewN nq).setCell ⟨w.heap.size, 0, none⟩ (.int .i64 (r.c : Int))).setCell ⟨w.heap.size, 1, none⟩ (.int .i64 (r.s : Int))).setCell ⟨w.heap.size, 2, none⟩ (.int .i64 (r.m : Int))).setCell ⟨w.heap.size, 3, none⟩ (.int .i64 (r.z : Int)))) := Lib.hid (fun r =>
      ((((Below.drewN' HB.out nq).setCell (Nat.le_refl _) _).setCell (Nat.le_refl _) _).setCell (Nat.le_refl _) _).setCell (Nat.le_refl _) _)
    generalize w2.drewN nq = w3 at *
    obtain ⟨v0, v1, v2, v3⟩ := HP2.c
    have y0 := HP2.f 0
    have y1 := HP2.f 1
    have y2 := HP2.f 2
    have y3 := HP2.f 3
    have HP3 := Lib.hid HP2
    clear HP2
    go_wp2_with fail
    rw [HE.out]
    exact bodyPost_ret (v := .tuple #[PaV ⟨0, 16, m - 3, 2⟩, .int .i64 (m : Int)]) (results_pa2 Tryz.results168 rfl rfl (HP3.out.set ⟨0, 16, m - 3, 2⟩)) rfl ⟨rfl, hS2.out ⟨0, 16, m - 3, 2⟩⟩
  have e := hR.out
  unfold rnQ at e
  rw [if_neg hA, if_neg hB, if_neg hC] at e
  have HE := Lib.hid e
  have hwx : IntKind.i64.wrap (x : Int) = (x : Int) := IntWalk.i64_in _ (by omega)
  have hxy : ¬ (3 ≤ k ∧ 0 < a) ∨ x ≠ y := by
    by_cases h : 3 ≤ k ∧ 0 < a
    · exact .inr fun h2 => hC ⟨h.1, h.2, h2⟩
    · exact .inl h
  clear e hR hA hB hC
  by_cases h3 : k < 3
  · have b3 : decide ((k : Int) ≥ 3) = false := by simp; omega
    have b2 : decide ((k : Int) ≥ 11) = false := by simp; omega
    by_cases hx0 : x = 0
    · subst hx0
      have b1 : (((0 : Nat) : Int) == 0) = true := by decide
      go_upto_region 7 with (fail)
      go_quiet (fail)
      rename_i nq
      have HP2 := HP.out.below (Below.drewN' (Below.refl _ w2) nq)
      have hS2 : Hid (∀ r : Pa, Below w.heap.size w (((((w2.drewN nq).setCell ⟨w.heap.size, 0, none⟩ (.int .i64 (r.c : Int))).setCell ⟨w.heap.size, 1, none⟩ (.int .i64 (r.s : Int))).setCell ⟨w.heap.size, 2, none⟩ (.int .i64 (r.m : Int))).setCell ⟨w.heap.size, 3, none⟩ (.int .i64 (r.z : Int)))) := Lib.hid (fun r =>
        ((((Below.drewN' HB.out nq).setCell (Nat.le_refl _) _).setCell (Nat.le_refl _) _).setCell (Nat.le_refl _) _).setCell (Nat.le_refl _) _)
      have c3 := cell_later (Below.drewN' (Below.refl _ w2) nq) c2
      generalize w2.drewN nq = w3 at *
      obtain ⟨v0, v1, v2, v3⟩ := HP2.c
      have y0 := HP2.f 0
      have y1 := HP2.f 1
      have y2 := HP2.f 2
      have y3 := HP2.f 3
      have HP3 := Lib.hid HP2
      clear HP2 c2 d2
      go_wp2_with fail
      rw [HE.out]
      exact bodyPost_ret (v := .tuple #[PaV ⟨0, 0, 0, 0⟩, .int .i64 1]) (results_pa2 Tryz.results168 rfl rfl (HP3.out.set ⟨0, 0, 0, 0⟩)) rfl ⟨rfl, hS2.out ⟨0, 0, 0, 0⟩⟩
    · have b1 : ((x : Int) == 0) = false := by simp; omega
      go_upto_region 7 with (fail)
      go_quiet (fail)
      rename_i nq
      have HP2 := HP.out.below (Below.drewN' (Below.refl _ w2) nq)
      have hS2 : Hid (∀ r : Pa, Below w.heap.size w (((((w2.drewN nq).setCell ⟨w.heap.size, 0, none⟩ (.int .i64 (r.c : Int))).setCell ⟨w.heap.size, 1, none⟩ (.int .i64 (r.s : Int))).setCell ⟨w.heap.size, 2, none⟩ (.int .i64 (r.m : Int))).setCell ⟨w.heap.size, 3, none⟩ (.int .i64 (r.z : Int)))) := Lib.hid (fun r =>
        ((((Below.drewN' HB.out nq).setCell (Nat.le_refl _) _).setCell (Nat.le_refl _) _).setCell (Nat.le_refl _) _).setCell (Nat.le_refl _) _)
      have c3 := cell_later (Below.drewN' (Below.refl _ w2) nq) c2
      generalize w2.drewN nq = w3 at *
      obtain ⟨v0, v1, v2, v3⟩ := HP2.c
      have y0 := HP2.f 0
      have y1 := HP2.f 1
      have y2 := HP2.f 2
      have y3 := HP2.f 3
      have HP3 := Lib.hid HP2
      clear HP2 c2 d2
      go_wp2_with fail
      rw [HE.out]
      exact bodyPost_ret (v := .tuple #[PaV ⟨0, x, 0, 0⟩, .int .i64 1]) (results_pa2 Tryz.results168 rfl rfl (HP3.out.set ⟨0, x, 0, 0⟩)) rfl ⟨rfl, hS2.out ⟨0, x, 0, 0⟩⟩
  · have b3 : decide ((k : Int) ≥ 3) = true := by simp; omega
    have b1 : ((x : Int) == 0) = false := by simp; omega
    by_cases ha0 : a = 0
    · subst ha0
      have b4 : decide ((0 : Int) > 0) = false := by decide
      rw [Nat.add_zero] at c2
      simp only [Int.natCast_zero] at s0 s1 hsl ⊢
      go_upto_region 7 with (fail)
      go_quiet (fail)
      rename_i nq
      have HP2 := HP.out.below (Below.drewN' (Below.refl _ w2) nq)
      have hS2 : Hid (∀ r : Pa, Below w.heap.size w (((((w2.drewN nq).setCell ⟨w.heap.size, 0, none⟩ (.int .i64 (r.c : Int))).setCell ⟨w.heap.size, 1, none⟩ (.int .i64 (r.s : Int))).setCell ⟨w.heap.size, 2, none⟩ (.int .i64 (r.m : Int))).setCell ⟨w.heap.size, 3, none⟩ (.int .i64 (r.z : Int)))) := Lib.hid (fun r =>
        ((((Below.drewN' HB.out nq).setCell (Nat.le_refl _) _).setCell (Nat.le_refl _) _).setCell (Nat.le_refl _) _).setCell (Nat.le_refl _) _)
      have c3 := cell_later (Below.drewN' (Below.refl _ w2) nq) c2
      generalize w2.drewN nq = w3 at *
      obtain ⟨v0, v1, v2, v3⟩ := HP2.c
      have y0 := HP2.f 0
      have y1 := HP2.f 1
      have y2 := HP2.f 2
      have y3 := HP2.f 3
      have HP3 := Lib.hid HP2
      clear HP2 c2 d2
      go_wp2_with fail
      rw [HE.out]
      exact bodyPost_ret (v := .tuple #[PaV ⟨0, x, 0, 0⟩, .int .i64 1]) (results_pa2 Tryz.results168 rfl rfl (HP3.out.set ⟨0, x, 0, 0⟩)) rfl ⟨rfl, hS2.out ⟨0, x, 0, 0⟩⟩
    · have b4 : decide ((a : Int) > 0) = true := by simp; omega
      have b5 : ((x : Int) == (y : Int)) = false := by
        rcases hxy with h | h
        · omega
        · simp; omega
      have ha1 : IntKind.i64.wrap ((a : Int) - 1) = ((a - 1 : Nat) : Int) := by rw [IntWalk.i64_in _ (by omega)]; omega
      have ha2 : (a : Int) - 1 = ((a - 1 : Nat) : Int) := by omega
      have t0 : (0 : Int) ≤ ((a - 1 : Nat) : Int) := by omega
      have t1 : ((a - 1 : Nat) : Int) < (n : Int) := by omega
      have ha3 : 0 < a := by omega
      clear ha0 h3 hN hxy
      go_upto_region 7 with (fail)
      go_quiet (fail)
      rename_i nq
      have HP2 := HP.out.below (Below.drewN' (Below.refl _ w2) nq)
      have hS2 : Hid (∀ r : Pa, Below w.heap.size w (((((w2.drewN nq).setCell ⟨w.heap.size, 0, none⟩ (.int .i64 (r.c : Int))).setCell ⟨w.heap.size, 1, none⟩ (.int .i64 (r.s : Int))).setCell ⟨w.heap.size, 2, none⟩ (.int .i64 (r.m : Int))).setCell ⟨w.heap.size, 3, none⟩ (.int .i64 (r.z : Int)))) := Lib.hid (fun r =>
        ((((Below.drewN' HB.out nq).setCell (Nat.le_refl _) _).setCell (Nat.le_refl _) _).setCell (Nat.le_refl _) _).setCell (Nat.le_refl _) _)
      have c3 := cell_later (Below.drewN' (Below.refl _ w2) nq) c2
      generalize w2.drewN nq = w3 at *
      obtain ⟨v0, v1, v2, v3⟩ := HP2.c
      have y0 := HP2.f 0
      have y1 := HP2.f 1
      have y2 := HP2.f 2
      have y3 := HP2.f 3
      have HP3 := Lib.hid HP2
      clear HP2 c2 d2
      go_wp2_with fail
      rw [HE.out]
      exact bodyPost_ret (v := .tuple #[PaV ⟨0, x, 0, 0⟩, .int .i64 1]) (results_pa2 Tryz.results168 rfl rfl (HP3.out.set ⟨0, x, 0, 0⟩)) rfl ⟨rfl, hS2.out ⟨0, x, 0, 0⟩⟩

end Go.Proofs.YtebfdoipogjpnaaGreat

/- deflate: what a row of lengths becomes, as an iterator hands it over. -/
namespace Go.Proofs.YtebfdoipogjpnaaGreat
open Go.RowKit Go.Shelf

attribute [local go_sem] Oper.semAt_some

theorem rnP_le {l : List Nat} {a : Nat} (h : a < l.length) : 1 ≤ (rnP l a).2 ∧ a + (rnP l a).2 ≤ l.length := by
  have h1 := lk_le (l.drop a)
  rw [List.length_drop] at h1
  unfold rnP rnQ
  split
  · simp only; omega
  · split
    · simp only; omega
    · split
      · simp only; omega
      · simp only; omega
/-- What a row becomes from a place on. -/
def rnF (l : List Nat) : Nat → Nat → List Pa
  | 0, _ => []
  | f + 1, a => if a < l.length then (rnP l a).1 :: rnF l f (a + (rnP l a).2) else []
def rnL (l : List Nat) : List Pa := rnF l (l.length + 1) 0
theorem rnF_end {l : List Nat} {f a : Nat} (h : l.length ≤ a) : rnF l f a = [] := by
  cases f with
  | zero => rfl
  | succ f => exact if_neg (by omega)
theorem rnF_cons {l : List Nat} {f a : Nat} (h : a < l.length) : rnF l (f + 1) a = (rnP l a).1 :: rnF l f (a + (rnP l a).2) := if_pos h

set_option maxRecDepth 20000 in
set_option maxHeartbeats 4000000 in
theorem runs_iter (Bl : Nat) (g off c : Nat) (l : List Nat) (w : World) (R : Nat → Prop) (hBl : w.cell? ⟨Bl, 0, none⟩ = some (.slice (some ⟨g, off, none⟩) l.length c)) (hc : ∀ i, i < l.length → w.cell? ⟨g, off + i, none⟩ = some (.int .u8 ((lq l i : Nat) : Int))) (h8 : ∀ i, lq l i < 256) (hl : l.length ≤ 1048576) (hlc : l.length ≤ c)
    (hRlt : ∀ b, R b → b < w.heap.size) (hR1 : R Bl) (hR3 : R g) :
    Iter Tryz.prog 167 #[.pointer (some ⟨Bl, 0, none⟩)] ElPa R (rnL l) w := by
  intro ll J Jx W hsz hRW hJ0 hY
  refine callsIn_wide.2 ?_
  have HY := Lib.hid hY
  have HRW := Lib.hid hRW
  have Hc := Lib.hid hc
  have HRlt := Lib.hid hRlt
  have HBl := Lib.hid hBl
  have H8 := Lib.hid h8
  obtain ⟨n, hn⟩ : ∃ n, l.length = n := ⟨_, rfl⟩
  have Hn := Lib.hid hn
  rw [hn] at hlc hl HBl
  clear hY hRW hc hRlt hBl hn h8
  go_enter Tryz.func167, Tryz.ntmps167
  go_wp2
  go_loopw [3] (fun av wr => ∃ (a f : Nat) (pre : List Pa) (Tp : Nat → Prop) (Wp : World), av = .int .i64 (a : Int) ∧ a ≤ n ∧ n < f + a ∧ Hid (rnL l = pre ++ rnF l f a) ∧ Hid (J pre Tp Wp) ∧ Hid (Turns Tp Wp wr) ∧ Hid (∀ b, R b → wr.heap[b]? = w.heap[b]?)) (fun av _ => n - (intOf av).toNat)
  case atStart => exact ⟨0, n + 1, [], fun _ => False, W, rfl, Nat.zero_le _, by omega, Lib.hid (by rw [← Hn.out]; rfl), Lib.hid hJ0, Lib.hid (Turns.refl _ _), HRW⟩
  case round =>
    obtain ⟨a, f, pre, Tp, Wp, rfl, ha, hf, HE, HJ, HT, HR⟩ := hrel
    have xb := (World.cell?_of_block (a := ⟨Bl, 0, none⟩) (HR.out Bl hR1)).trans HBl.out
    by_cases han : a < n
    · have d1 : decide ((a : Int) < (n : Int)) = true := by simp; omega
      have han' : a < l.length := by rw [Hn.out]; exact han
      obtain ⟨r1, r2⟩ := rnP_le han'
      rw [Hn.out] at r2
      obtain ⟨f', rfl⟩ : ∃ f', f = f' + 1 := ⟨f - 1, by omega⟩
      have HE2 := HE.out
      rw [rnF_cons han'] at HE2
      have hrun := run_any g off c a l wr han' (by rw [Hn.out]; exact hlc) (by rw [Hn.out]; exact hl) H8.out (fun i hi => (World.cell?_of_block (a := ⟨g, off + i, none⟩) (HR.out g hR3)).trans (Hc.out i hi))
      obtain ⟨⟨x, m⟩, hxm⟩ : ∃ q, rnP l a = q := ⟨_, rfl⟩
      rw [hxm] at r1 r2 HE2 hrun
      rw [Hn.out] at hrun
      simp only at r1 r2 HE2 hrun
      have Hrun := Lib.hid hrun
      have HE3 := Lib.hid HE2
      clear HE2 hrun hxm han'
      go_wp2_with fail
      refine Calls.mono Hrun.out ?_
      rintro _ u1 ⟨rfl, hb1⟩
      have HR1 : Hid (∀ b, R b → u1.heap[b]? = w.heap[b]?) := Lib.hid (fun b hb => (hb1.block b (lt_of_same (HRlt.out b hb) (HR.out b hb))).trans (HR.out b hb))
      have HT1 := Lib.hid (HT.out.trans (Turns.of_below' hb1))
      clear hb1 Hrun xb
      go_upto_region 3 with (fail)
      have hp := pa_new u1 x
      have hbp := Below.al1 u1 (.cells (paC x) 174)
      simp only [paC] at hp hbp
      generalize u1.alloc (.cells #[.int .i64 (x.c : Int), .int .i64 (x.s : Int), .int .i64 (x.m : Int), .int .i64 (x.z : Int)] 174) = u2 at *
      obtain ⟨p0, p1, p2, p3⟩ := hp.c
      have HR2 : Hid (∀ b, R b → u2.heap[b]? = w.heap[b]?) := Lib.hid (fun b hb => (hbp.block b (lt_of_same (HRlt.out b hb) (HR1.out b hb))).trans (HR1.out b hb))
      have HT2 := Lib.hid (HT1.out.trans (Turns.of_below' hbp))
      generalize u1.heap.size = pb at *
      clear hp hbp
      obtain ⟨fn, tmps, assign, body, hy, hRd⟩ := HY.out pre x (rnF l f' (a + m)) Tp (fun _ => False) Wp u2 #[PaV x] HE3.out HJ.out HT2.out (fun _ h => h.elim) (fun _ h => h.elim) HR2.out rfl
      refine (wpIn_wide (n := 0)).1 ?_
      gi_wp2
      refine ⟨rfl, hRd.mono ?_⟩
      rintro e W3 (⟨rfl, hJ3, hsz3, hk3⟩ | ⟨rfl, hJx3, -, -⟩)
      · have HR3 : Hid (∀ b, R b → W3.heap[b]? = w.heap[b]?) := Lib.hid (fun b hb => (hk3 b (Or.inl hb)).trans (HR2.out b hb))
        have HJ3 := Lib.hid hJ3
        clear hk3 hJ3 hy hRd p0 p1 p2 p3
        gi_wp2
        go_wp2
        go_roundw
        case rel => exact ⟨a + m, f', pre ++ [x], fun _ => False, W3, by go_num, by omega, by omega, Lib.hid (by rw [HE3.out]; simp), HJ3, Lib.hid (Turns.refl _ _), HR3⟩
        case measure => simp [intOf]; omega
      · have HP : pre ++ [x] <+: rnL l := ⟨rnF l f' (a + m), by rw [HE3.out]; simp⟩
        gi_wp2
        go_wp2
        refine bodyPost_ret (results_none rfl _ _ _) rfl ?_
        exact ⟨⟨_, rfl⟩, .inr ⟨_, _, _, HP, hJx3, Turns.refl _ _⟩⟩
    · obtain rfl : a = n := by omega
      have d1 : decide ((a : Int) < (a : Int)) = false := by simp
      have HX : Hid (rnL l = pre) := Lib.hid (by rw [HE.out, rnF_end (by rw [Hn.out]; exact Nat.le_refl _), List.append_nil])
      go_wp2
      go_end0
      exact ⟨⟨_, rfl⟩, .inl ⟨_, _, by rw [HX.out]; exact HJ.out, HT.out⟩⟩

end Go.Proofs.YtebfdoipogjpnaaGreat

/- deflate, plainly: a row of lengths that is laid by runs is read. -/
namespace Go.Proofs.YtebfdoipogjpnaaGreat

theorem take_run {V : List Nat} {i v : Nat} : ∀ {m : Nat}, i + m ≤ V.length → (∀ j, j < m → lq V (i + j) = v) → V.take i ++ List.replicate m v = V.take (i + m)
  | 0, _, _ => by simp
  | m + 1, h, hv => by
    have e := take_run (m := m) (by omega) fun j hj => hv j (by omega)
    have hi : i + m < V.length := by omega
    rw [List.replicate_succ', ← List.append_assoc, e, ← Nat.add_assoc, List.take_succ_eq_append_getElem hi, lq_at hi, hv m (by omega)]
theorem tw_all {v : Nat} : ∀ {r : List Nat} {j : Nat}, j < (r.takeWhile fun x => decide (x = v)).length → lq r j = v
  | [], j, h => by simp at h
  | y :: r, j, h => by
    by_cases e : y = v
    · cases j with
      | zero => exact e
      | succ j =>
        rw [List.takeWhile_cons, if_pos (by simpa using e), List.length_cons] at h
        exact tw_all (v := v) (r := r) (j := j) (by omega)
    · rw [List.takeWhile_cons, if_neg (by simpa using e)] at h
      simp at h
theorem lk_all : ∀ {l : List Nat} {j : Nat}, j < lk l → lq l j = lq l 0
  | [], j, h => absurd h (Nat.not_lt_zero j)
  | v :: r, 0, _ => rfl
  | v :: r, j + 1, h => by
    have h1 : j + 1 < 1 + (r.takeWhile fun x => decide (x = v)).length := h
    exact tw_all (v := v) (r := r) (j := j) (by omega)

/-- What a row of lengths becomes tells it. -/
theorem runs_ls {C l V : List Nat} (hC : chk C = 0) (h16 : ∀ i, lq V i < 16) : ∀ (f i : Nat) {a : Nat} {q : Pt}, V.length < f + i → i ≤ V.length → (∀ x ∈ rnF V f i, x.c = 0 ∧ x.s < C.length ∧ 0 < lq C x.s) →
    AtP l a ((rnF V f i).flatMap (plP [C]) ++ q) → InfLs C l V.length a (V.take i) (.go (a + szP ((rnF V f i).flatMap (plP [C]))) V)
  | 0, i, a, q, hf, hi, _, _ => by omega
  | f + 1, i, a, q, hf, hi, hx, h => by
    by_cases hlt : i < V.length
    · rw [rnF_cons hlt] at h hx ⊢
      obtain ⟨r1, r2⟩ := rnP_le hlt
      have hlk : ∀ j, j < lk (V.drop i) → lq V (i + j) = lq V i := fun j hj => by
        have := lk_all hj
        rwa [lq_drop, lq_drop, Nat.add_zero] at this
      obtain ⟨x0, x1, x2⟩ := hx _ List.mem_cons_self
      have hx' := fun x h => hx x (List.mem_cons_of_mem _ h)
      have hshape : ∃ k c v, ((rnP V i).1.s = 16 ∧ 0 < (V.take i).length ∧ k = 2 ∧ c = 3 ∧ v = (V.take i).getD ((V.take i).length - 1) 0 ∨ (rnP V i).1.s = 17 ∧ k = 3 ∧ c = 3 ∧ v = 0 ∨ (rnP V i).1.s = 18 ∧ k = 7 ∧ c = 11 ∧ v = 0 ∨ (rnP V i).1.s < 16 ∧ k = 0 ∧ c = 1 ∧ v = (rnP V i).1.s) ∧
          (rnP V i).1.z = k ∧ c + (rnP V i).1.m = (rnP V i).2 ∧ ∀ j, j < (rnP V i).2 → lq V (i + j) = v := by
        have hl : (V.take i).length = i := by rw [List.length_take]; omega
        have hgl : 0 < i → (V.take i).getD ((V.take i).length - 1) 0 = lq V (i - 1) := fun h0 => by
          rw [hl, List.getD_eq_getElem?_getD, List.getElem?_take, if_pos (by omega)]; unfold lq; rw [List.getD_eq_getElem?_getD]
        unfold rnP rnQ
        by_cases hA : lq V i = 0 ∧ 11 ≤ lk (V.drop i)
        · rw [if_pos hA]
          exact ⟨7, 11, 0, .inr (.inr (.inl ⟨rfl, rfl, rfl, rfl⟩)), rfl, by simp only; omega, fun j hj => by rw [hlk j (by simp only at hj; omega)]; exact hA.1⟩
        · rw [if_neg hA]
          by_cases hB : lq V i = 0 ∧ 3 ≤ lk (V.drop i)
          · rw [if_pos hB]
            exact ⟨3, 3, 0, .inr (.inl ⟨rfl, rfl, rfl, rfl⟩), rfl, by simp only; omega, fun j hj => by rw [hlk j (by simpa using hj)]; exact hB.1⟩
          · rw [if_neg hB]
            by_cases hD : 3 ≤ lk (V.drop i) ∧ 0 < i ∧ lq V i = lq V (i - 1)
            · rw [if_pos hD]
              refine ⟨2, 3, lq V (i - 1), .inl ⟨rfl, by omega, rfl, rfl, (hgl hD.2.1).symm⟩, rfl, by simp only; omega, fun j hj => by rw [hlk j (by simp only at hj; omega)]; exact hD.2.2⟩
            · rw [if_neg hD]
              refine ⟨0, 1, lq V i, .inr (.inr (.inr ⟨h16 i, rfl, rfl, rfl⟩)), rfl, rfl, fun j hj => ?_⟩
              obtain rfl : j = 0 := by simp only at hj; omega
              rfl
      obtain ⟨k, c, v, hsh, hz, hcm, hall⟩ := hshape
      rw [List.flatMap_cons, List.append_assoc] at h
      have hpl : plP [C] (rnP V i).1 = [(cd (lq C) C.length (rnP V i).1.s, lq C (rnP V i).1.s), ((rnP V i).1.m, (rnP V i).1.z)] := by
        unfold plP
        rw [x0]; rfl
      rw [hpl] at h
      obtain ⟨s1, h⟩ := AtP.sy hC x1 x2 h
      obtain ⟨n1, n2, h⟩ := h
      simp only at n1 n2 h
      rw [hz] at n1 n2 h
      have hl : (V.take i).length = i := by rw [List.length_take]; omega
      have hgo := InfSv.go (C := C) (l := l) (n := V.length) (a := a) (ls := V.take i) _ _ k c v s1 hsh n2 (by rw [n1, hl, hcm]; exact r2)
      rw [n1, hcm, take_run r2 hall] at hgo
      have hr := runs_ls hC h16 f (i + (rnP V i).2) (by omega) r2 hx' h
      have h3 := InfLs.more _ _ _ _ _ (by rw [hl]; exact hlt) hgo hr
      rw [List.flatMap_cons, szP_app, hpl]
      simp only [szP]
      rw [hz, show a + (lq C (rnP V i).1.s + (k + 0) + szP ((rnF V f (i + (rnP V i).2)).flatMap (plP [C]))) = a + lq C (rnP V i).1.s + k + szP ((rnF V f (i + (rnP V i).2)).flatMap (plP [C])) by omega]
      exact h3
    · obtain rfl : i = V.length := by omega
      rw [rnF_end (Nat.le_refl _), List.take_length]
      exact .fin a V (Nat.le_refl _)

end Go.Proofs.YtebfdoipogjpnaaGreat
