/- inflate: steps that tell numbers: stepped, length, distance. -/
import Derived.Test.YtajidlihepjegaaK829
namespace Go.Proofs.Ytajidlihepjegaa
open Go.RowKit Go.Maps

section
variable {base S B : Nat} {sv ov uv : Value} {l : List Nat} {lim a : Nat} {o : List Nat}

theorem wrap64_in (x : Int) (h : -9223372036854775808 ≤ x ∧ x ≤ 9223372036854775807) : wrap64 x = x := IntWalk.wrap64_in x (by omega)
theorem stpBase_le4 : ∀ st, st < 30 → stpBase st 4 ≤ 1000000 := by decide
theorem stpBase_le2 : ∀ st, st < 30 → stpBase st 2 ≤ 1000000 := by decide
theorem Sm.drew {w : World} (h : Sm w base S B sv ov uv l lim a o) : Sm w.drew base S B sv ov uv l lim a o ∧ Fr S B ov w ov w.drew := h.below (Below.drew (Below.refl _ _))
theorem inum_ok (k : Nat) (hk : k ≤ 24) (w : World) (h : Sm w base S B sv ov uv l lim a o) (hfit : a + k ≤ 8 * l.length) :
    Calls Try.prog 55 #[.pointer (some ⟨S, 0, none⟩), .int .i64 (k : Int)] w fun e w' => e = .returned (.int .i64 (nb l a k : Int)) ∧ Sm w' base S B sv ov uv l lim (a + k) o ∧ Fr S B ov w ov w' := by
  refine Calls.mono (inum_any k hk w h) ?_
  rintro e w' (⟨-, h1⟩ | ⟨h1, -⟩)
  · exact h1
  · omega
theorem inum_few (k : Nat) (hk : k ≤ 24) (w : World) (h : Sm w base S B sv ov uv l lim a o) (hfit : 8 * l.length < a + k) :
    Calls Try.prog 55 #[.pointer (some ⟨S, 0, none⟩), .int .i64 (k : Int)] w fun e w' => e = thrown 50 ∧ Turns (KS S B ov) w w' := by
  refine Calls.mono (inum_any k hk w h) ?_
  rintro e w' (⟨h1, -⟩ | ⟨-, h1⟩)
  · omega
  · exact h1

set_option maxHeartbeats 1000000 in
theorem istep4_small (st : Nat) (w : World) (hs : st < 2 * 4) :
    Calls Try.prog 83 #[.pointer (some ⟨S, 0, none⟩), .int .i64 (st : Int), .int .i64 4] w fun e w' => e = .returned (.int .i64 (st : Int)) ∧ w' = w := by
  have d : decide ((st : Int) < 8) = true := by simp; omega
  go_enter Try.func83, Try.ntmps83
  go_wp2
  go_ret
  exact ⟨rfl, rfl⟩

set_option maxHeartbeats 1000000 in
theorem istep4_ok (st k m : Nat) (hk : st / 4 = k + 1) (hm : st % 4 = m) (hk1 : 1 ≤ k) (hst : st ≤ 29) (w : World) (h : Sm w base S B sv ov uv l lim a o) (hfit : a + k ≤ 8 * l.length) :
    Calls Try.prog 83 #[.pointer (some ⟨S, 0, none⟩), .int .i64 (st : Int), .int .i64 4] w fun e w' => e = .returned (.int .i64 (((4 + m) * 2 ^ k + nb l a k : Nat) : Int)) ∧ Sm w' base S B sv ov uv l lim (a + k) o ∧ Fr S B ov w ov w' := by
  have d : decide ((st : Int) < 8) = false := by simp only [decide_eq_false_iff_not]; omega
  have H := Lib.hid h
  have hk13 : k ≤ 13 := by omega
  have hq1 : (st : Int) / 4 = (k : Int) + 1 := by omega
  have hq2 : wrap64 ((k : Int) + 1) = (k : Int) + 1 := wrap64_in _ (by omega)
  have hq3 : wrap64 (k : Int) = (k : Int) := wrap64_in _ (by omega)
  have hm1 : (st : Int).tmod 4 = (m : Int) := by rw [← hm]; rfl
  have hm3 : m ≤ 3 := by omega
  have hm2 : IntKind.i64.wrap (4 + (m : Int)) = 4 + (m : Int) := IntWalk.i64_in _ (by omega)
  obtain ⟨z, hz⟩ : ∃ z, (4 + m) * 2 ^ k = z := ⟨_, rfl⟩
  have hz1 : (4 + (m : Int)) * 2 ^ k = (z : Int) := by rw [← hz]; simp
  have hzb : z ≤ 7 * 8192 := by rw [← hz]; exact Nat.mul_le_mul (by omega) (Nat.pow_le_pow_right (n := 2) (j := 13) (by decide) hk13)
  have hz2 : IntKind.i64.wrap (z : Int) = (z : Int) := IntWalk.i64_in _ (by omega)
  have hnb : nb l a k < 16777216 := Nat.lt_of_lt_of_le (nb_lt l a k) (Nat.pow_le_pow_right (n := 2) (j := 24) (by decide) (by omega))
  rw [hz]
  obtain ⟨x, hx⟩ : ∃ x, nb l a k = x := ⟨_, rfl⟩
  rw [hx] at hnb ⊢
  have Hx := Lib.hid hx
  have hz3 : IntKind.i64.wrap ((z : Int) + (x : Int)) = ((z + x : Nat) : Int) := IntWalk.i64_in _ (by omega)
  clear h hk hm hz hx hk1
  go_enter Try.func83, Try.ntmps83
  go_upto_region 4 with (fail)
  go_region_with (go_at_call 55; refine (inum_ok k (by omega) _ H.out.drew.1 hfit).mono ?_; rintro e w1 ⟨rfl, hs⟩; rw [Hx.out]; have Hs := Lib.hid hs; clear hs)
  all_goals go_wp2
  all_goals go_ret
  all_goals exact ⟨rfl, Hs.out.1, H.out.drew.2.trans Hs.out.2⟩


set_option maxHeartbeats 1000000 in
theorem istep4_few (st k : Nat) (hk : st / 4 = k + 1) (hk1 : 1 ≤ k) (hst : st ≤ 29) (w : World) (h : Sm w base S B sv ov uv l lim a o) (hfit : 8 * l.length < a + k) :
    Calls Try.prog 83 #[.pointer (some ⟨S, 0, none⟩), .int .i64 (st : Int), .int .i64 4] w fun e w' => e = thrown 50 ∧ Turns (KS S B ov) w w' := by
  have d : decide ((st : Int) < 8) = false := by simp only [decide_eq_false_iff_not]; omega
  have H := Lib.hid h
  have hk13 : k ≤ 13 := by omega
  have hq1 : (st : Int) / 4 = (k : Int) + 1 := by omega
  have hq2 : wrap64 ((k : Int) + 1) = (k : Int) + 1 := wrap64_in _ (by omega)
  have hq3 : wrap64 (k : Int) = (k : Int) := wrap64_in _ (by omega)
  clear h hk hk1 hst
  go_enter Try.func83, Try.ntmps83
  go_upto_region 4 with (fail)
  refine wp_region_any (by kernel_rfl) ?_
  change wpAny _ _ _ _ _ _ _ (World.drew _)
  refine wpAny_take (i := 0) (v := ?_) rfl (by kernel_rfl) (by kernel_rfl) (by kernel_rfl) (fun _ _ _ h => h) (Or.inl ⟨by rfl, ?hy⟩) ?_
  case hy => (intro w'; go_simp; try with_reducible rfl)
  refine wpAny_take (i := 1) (v := ?_) rfl (by kernel_rfl) (by kernel_rfl) (by kernel_rfl) (fun _ _ _ h => h) (Or.inl ⟨by rfl, ?hy⟩) ?_
  case hy => (intro w'; go_simp; try with_reducible rfl)
  refine wpAny_take (i := 2) (v := ?_) rfl (by kernel_rfl) (by kernel_rfl) (by kernel_rfl) (fun _ _ _ h => h) (Or.inl ⟨by rfl, ?hy⟩) ?_
  case hy => (intro w'; go_simp; try with_reducible rfl)
  refine wpAny_take (i := 3) (v := ?_) rfl (by kernel_rfl) (by kernel_rfl) (by kernel_rfl) (fun _ _ _ h => h) (Or.inl ⟨by rfl, ?hy⟩) ?_
  case hy => (intro w'; go_simp; try with_reducible rfl)
  refine wpAny_take (i := 4) (v := ?_) rfl (by kernel_rfl) (by kernel_rfl) (by kernel_rfl) (fun _ _ _ h => h) (Or.inl ⟨by rfl, ?hy⟩) ?_
  case hy => (intro w'; go_simp; try with_reducible rfl)
  refine wpAny_take (i := 5) (v := ?_) rfl (by kernel_rfl) (by kernel_rfl) (by kernel_rfl) (fun _ _ _ h => h) (Or.inl ⟨by rfl, ?hy⟩) ?_
  case hy => (intro w'; go_simp; try with_reducible rfl)
  refine wpAny_take (i := 6) (v := ?_) rfl (by kernel_rfl) (by kernel_rfl) (by kernel_rfl) (fun _ _ _ h => h) (Or.inl ⟨by rfl, ?hy⟩) ?_
  case hy => (intro w'; go_simp; try with_reducible rfl)
  refine wpAny_take (i := 7) (v := ?_) rfl (by kernel_rfl) (by kernel_rfl) (by kernel_rfl) (fun _ _ _ h => h) (Or.inl ⟨by rfl, ?hy⟩) ?_
  case hy => (intro w'; go_simp; try with_reducible rfl)
  refine wpAny_take (i := 8) (v := ?_) rfl (by kernel_rfl) (by kernel_rfl) (by kernel_rfl) (fun _ _ _ h => h) (Or.inl ⟨by rfl, ?hy⟩) ?_
  case hy => (intro w'; go_simp; try with_reducible rfl)
  refine wpAny_ready (rs := [9]) (by kernel_rfl) (by simp) ?_
  refine AllReady.cons rfl (fun K hK => ?_) AllReady.nil
  go_simp
  refine (inum_few k (by omega) _ H.out.drew.1 hfit).mono ?_
  rintro e w1 ⟨rfl, hs⟩
  exact ⟨rfl, rfl, H.out.drew.2.turns.trans hs⟩

set_option maxHeartbeats 1000000 in
/-- What stepped answers, whichever step. -/
theorem istep4_any (st : Nat) (hst : st ≤ 29) (w : World) (h : Sm w base S B sv ov uv l lim a o) :
    Calls Try.prog 83 #[.pointer (some ⟨S, 0, none⟩), .int .i64 (st : Int), .int .i64 4] w fun e w' =>
      (a + stpBits st 4 ≤ 8 * l.length ∧ e = .returned (.int .i64 ((stpBase st 4 + nb l a (stpBits st 4) : Nat) : Int)) ∧ Sm w' base S B sv ov uv l lim (a + stpBits st 4) o ∧ Fr S B ov w ov w') ∨ (8 * l.length < a + stpBits st 4 ∧ e = thrown 50 ∧ Turns (KS S B ov) w w') := by
  by_cases hs : st < 2 * 4
  · refine Calls.mono (istep4_small st w hs) ?_
    rintro e w' ⟨rfl, rfl⟩
    have e1 : stpBits st 4 = 0 := if_pos hs
    have e2 : stpBase st 4 = st := if_pos hs
    rw [e1, e2, nb_zero]
    exact .inl ⟨h.rd.pos, rfl, h, Fr.refl _ _ _ _⟩
  · have e1 : stpBits st 4 = st / 4 - 1 := if_neg hs
    have e2 : stpBase st 4 = (4 + st % 4) * 2 ^ (st / 4 - 1) := if_neg hs
    rw [e1, e2]
    by_cases hfit : a + (st / 4 - 1) ≤ 8 * l.length
    · refine Calls.mono (istep4_ok st (st / 4 - 1) (st % 4) (by omega) rfl (by omega) hst w h hfit) ?_
      rintro e w' ⟨rfl, h1⟩
      exact .inl ⟨hfit, rfl, h1⟩
    · refine Calls.mono (istep4_few st (st / 4 - 1) (by omega) (by omega) hst w h (by omega)) ?_
      rintro e w' ⟨rfl, h1⟩
      exact .inr ⟨by omega, rfl, h1⟩

set_option maxHeartbeats 1000000 in
theorem istep2_small (st : Nat) (w : World) (hs : st < 2 * 2) :
    Calls Try.prog 83 #[.pointer (some ⟨S, 0, none⟩), .int .i64 (st : Int), .int .i64 2] w fun e w' => e = .returned (.int .i64 (st : Int)) ∧ w' = w := by
  have d : decide ((st : Int) < 4) = true := by simp; omega
  go_enter Try.func83, Try.ntmps83
  go_wp2
  go_ret
  exact ⟨rfl, rfl⟩

set_option maxHeartbeats 1000000 in
theorem istep2_ok (st k m : Nat) (hk : st / 2 = k + 1) (hm : st % 2 = m) (hk1 : 1 ≤ k) (hst : st ≤ 29) (w : World) (h : Sm w base S B sv ov uv l lim a o) (hfit : a + k ≤ 8 * l.length) :
    Calls Try.prog 83 #[.pointer (some ⟨S, 0, none⟩), .int .i64 (st : Int), .int .i64 2] w fun e w' => e = .returned (.int .i64 (((2 + m) * 2 ^ k + nb l a k : Nat) : Int)) ∧ Sm w' base S B sv ov uv l lim (a + k) o ∧ Fr S B ov w ov w' := by
  have d : decide ((st : Int) < 4) = false := by simp only [decide_eq_false_iff_not]; omega
  have H := Lib.hid h
  have hk13 : k ≤ 13 := by omega
  have hq1 : (st : Int) / 2 = (k : Int) + 1 := by omega
  have hq2 : wrap64 ((k : Int) + 1) = (k : Int) + 1 := wrap64_in _ (by omega)
  have hq3 : wrap64 (k : Int) = (k : Int) := wrap64_in _ (by omega)
  have hm1 : (st : Int).tmod 2 = (m : Int) := by rw [← hm]; rfl
  have hm3 : m ≤ 3 := by omega
  have hm2 : IntKind.i64.wrap (2 + (m : Int)) = 2 + (m : Int) := IntWalk.i64_in _ (by omega)
  obtain ⟨z, hz⟩ : ∃ z, (2 + m) * 2 ^ k = z := ⟨_, rfl⟩
  have hz1 : (2 + (m : Int)) * 2 ^ k = (z : Int) := by rw [← hz]; simp
  have hzb : z ≤ 7 * 8192 := by rw [← hz]; exact Nat.mul_le_mul (by omega) (Nat.pow_le_pow_right (n := 2) (j := 13) (by decide) hk13)
  have hz2 : IntKind.i64.wrap (z : Int) = (z : Int) := IntWalk.i64_in _ (by omega)
  have hnb : nb l a k < 16777216 := Nat.lt_of_lt_of_le (nb_lt l a k) (Nat.pow_le_pow_right (n := 2) (j := 24) (by decide) (by omega))
  rw [hz]
  obtain ⟨x, hx⟩ : ∃ x, nb l a k = x := ⟨_, rfl⟩
  rw [hx] at hnb ⊢
  have Hx := Lib.hid hx
  have hz3 : IntKind.i64.wrap ((z : Int) + (x : Int)) = ((z + x : Nat) : Int) := IntWalk.i64_in _ (by omega)
  clear h hk hm hz hx hk1
  go_enter Try.func83, Try.ntmps83
  go_upto_region 4 with (fail)
  go_region_with (go_at_call 55; refine (inum_ok k (by omega) _ H.out.drew.1 hfit).mono ?_; rintro e w1 ⟨rfl, hs⟩; rw [Hx.out]; have Hs := Lib.hid hs; clear hs)
  all_goals go_wp2
  all_goals go_ret
  all_goals exact ⟨rfl, Hs.out.1, H.out.drew.2.trans Hs.out.2⟩


set_option maxHeartbeats 1000000 in
theorem istep2_few (st k : Nat) (hk : st / 2 = k + 1) (hk1 : 1 ≤ k) (hst : st ≤ 29) (w : World) (h : Sm w base S B sv ov uv l lim a o) (hfit : 8 * l.length < a + k) :
    Calls Try.prog 83 #[.pointer (some ⟨S, 0, none⟩), .int .i64 (st : Int), .int .i64 2] w fun e w' => e = thrown 50 ∧ Turns (KS S B ov) w w' := by
  have d : decide ((st : Int) < 4) = false := by simp only [decide_eq_false_iff_not]; omega
  have H := Lib.hid h
  have hk13 : k ≤ 13 := by omega
  have hq1 : (st : Int) / 2 = (k : Int) + 1 := by omega
  have hq2 : wrap64 ((k : Int) + 1) = (k : Int) + 1 := wrap64_in _ (by omega)
  have hq3 : wrap64 (k : Int) = (k : Int) := wrap64_in _ (by omega)
  clear h hk hk1 hst
  go_enter Try.func83, Try.ntmps83
  go_upto_region 4 with (fail)
  refine wp_region_any (by kernel_rfl) ?_
  change wpAny _ _ _ _ _ _ _ (World.drew _)
  refine wpAny_take (i := 0) (v := ?_) rfl (by kernel_rfl) (by kernel_rfl) (by kernel_rfl) (fun _ _ _ h => h) (Or.inl ⟨by rfl, ?hy⟩) ?_
  case hy => (intro w'; go_simp; try with_reducible rfl)
  refine wpAny_take (i := 1) (v := ?_) rfl (by kernel_rfl) (by kernel_rfl) (by kernel_rfl) (fun _ _ _ h => h) (Or.inl ⟨by rfl, ?hy⟩) ?_
  case hy => (intro w'; go_simp; try with_reducible rfl)
  refine wpAny_take (i := 2) (v := ?_) rfl (by kernel_rfl) (by kernel_rfl) (by kernel_rfl) (fun _ _ _ h => h) (Or.inl ⟨by rfl, ?hy⟩) ?_
  case hy => (intro w'; go_simp; try with_reducible rfl)
  refine wpAny_take (i := 3) (v := ?_) rfl (by kernel_rfl) (by kernel_rfl) (by kernel_rfl) (fun _ _ _ h => h) (Or.inl ⟨by rfl, ?hy⟩) ?_
  case hy => (intro w'; go_simp; try with_reducible rfl)
  refine wpAny_take (i := 4) (v := ?_) rfl (by kernel_rfl) (by kernel_rfl) (by kernel_rfl) (fun _ _ _ h => h) (Or.inl ⟨by rfl, ?hy⟩) ?_
  case hy => (intro w'; go_simp; try with_reducible rfl)
  refine wpAny_take (i := 5) (v := ?_) rfl (by kernel_rfl) (by kernel_rfl) (by kernel_rfl) (fun _ _ _ h => h) (Or.inl ⟨by rfl, ?hy⟩) ?_
  case hy => (intro w'; go_simp; try with_reducible rfl)
  refine wpAny_take (i := 6) (v := ?_) rfl (by kernel_rfl) (by kernel_rfl) (by kernel_rfl) (fun _ _ _ h => h) (Or.inl ⟨by rfl, ?hy⟩) ?_
  case hy => (intro w'; go_simp; try with_reducible rfl)
  refine wpAny_take (i := 7) (v := ?_) rfl (by kernel_rfl) (by kernel_rfl) (by kernel_rfl) (fun _ _ _ h => h) (Or.inl ⟨by rfl, ?hy⟩) ?_
  case hy => (intro w'; go_simp; try with_reducible rfl)
  refine wpAny_take (i := 8) (v := ?_) rfl (by kernel_rfl) (by kernel_rfl) (by kernel_rfl) (fun _ _ _ h => h) (Or.inl ⟨by rfl, ?hy⟩) ?_
  case hy => (intro w'; go_simp; try with_reducible rfl)
  refine wpAny_ready (rs := [9]) (by kernel_rfl) (by simp) ?_
  refine AllReady.cons rfl (fun K hK => ?_) AllReady.nil
  go_simp
  refine (inum_few k (by omega) _ H.out.drew.1 hfit).mono ?_
  rintro e w1 ⟨rfl, hs⟩
  exact ⟨rfl, rfl, H.out.drew.2.turns.trans hs⟩

set_option maxHeartbeats 1000000 in
/-- What stepped answers, whichever step. -/
theorem istep2_any (st : Nat) (hst : st ≤ 29) (w : World) (h : Sm w base S B sv ov uv l lim a o) :
    Calls Try.prog 83 #[.pointer (some ⟨S, 0, none⟩), .int .i64 (st : Int), .int .i64 2] w fun e w' =>
      (a + stpBits st 2 ≤ 8 * l.length ∧ e = .returned (.int .i64 ((stpBase st 2 + nb l a (stpBits st 2) : Nat) : Int)) ∧ Sm w' base S B sv ov uv l lim (a + stpBits st 2) o ∧ Fr S B ov w ov w') ∨ (8 * l.length < a + stpBits st 2 ∧ e = thrown 50 ∧ Turns (KS S B ov) w w') := by
  by_cases hs : st < 2 * 2
  · refine Calls.mono (istep2_small st w hs) ?_
    rintro e w' ⟨rfl, rfl⟩
    have e1 : stpBits st 2 = 0 := if_pos hs
    have e2 : stpBase st 2 = st := if_pos hs
    rw [e1, e2, nb_zero]
    exact .inl ⟨h.rd.pos, rfl, h, Fr.refl _ _ _ _⟩
  · have e1 : stpBits st 2 = st / 2 - 1 := if_neg hs
    have e2 : stpBase st 2 = (2 + st % 2) * 2 ^ (st / 2 - 1) := if_neg hs
    rw [e1, e2]
    by_cases hfit : a + (st / 2 - 1) ≤ 8 * l.length
    · refine Calls.mono (istep2_ok st (st / 2 - 1) (st % 2) (by omega) rfl (by omega) hst w h hfit) ?_
      rintro e w' ⟨rfl, h1⟩
      exact .inl ⟨hfit, rfl, h1⟩
    · refine Calls.mono (istep2_few st (st / 2 - 1) (by omega) (by omega) hst w h (by omega)) ?_
      rintro e w' ⟨rfl, h1⟩
      exact .inr ⟨by omega, rfl, h1⟩


set_option maxHeartbeats 1000000 in
theorem ilen_far (x : Nat) (w : World) (hx : 285 < x) (hx2 : x ≤ 1000000) :
    Calls Try.prog 70 #[.pointer (some ⟨S, 0, none⟩), .int .i64 (x : Int)] w fun e w' => e = thrown 80 ∧ w' = w := by
  have d : decide ((x : Int) > 285) = true := by simp; omega
  go_enter Try.func70, Try.ntmps70
  go_wp2
  exact ⟨rfl, rfl, rfl⟩

set_option maxRecDepth 20000 in
set_option maxHeartbeats 1000000 in
theorem ilen_any (x : Nat) (w : World) (hx0 : 256 < x) (hx : x ≤ 285) (h : Sm w base S B sv ov uv l lim a o) :
    Calls Try.prog 70 #[.pointer (some ⟨S, 0, none⟩), .int .i64 (x : Int)] w fun e w' =>
      (a + lnBits x ≤ 8 * l.length ∧ e = .returned (.int .i64 ((lnBase x + nb l a (lnBits x) : Nat) : Int)) ∧ Sm w' base S B sv ov uv l lim (a + lnBits x) o ∧ Fr S B ov w ov w') ∨ (8 * l.length < a + lnBits x ∧ e = thrown 50 ∧ Turns (KS S B ov) w w') := by
  have H := Lib.hid h
  have d : decide ((x : Int) > 285) = false := by simp; omega
  by_cases h85 : x = 285
  · subst h85
    clear h
    go_enter Try.func70, Try.ntmps70
    go_wp2
    go_ret
    have e1 : lnBits 285 = 0 := rfl
    have e2 : lnBase 285 = 258 := rfl
    rw [e1, e2, nb_zero]
    exact .inl ⟨H.out.rd.pos, rfl, H.out, Fr.refl _ _ _ _⟩
  · have d2 : ((x : Int) == 285) = false := by simp; omega
    obtain ⟨st, hst⟩ : ∃ st, x = st + 257 := ⟨x - 257, by omega⟩
    have hw1 : IntKind.i64.wrap ((x : Int) - 257) = (st : Int) := by rw [IntWalk.i64_in _ (by omega)]; omega
    have e1 : lnBits x = stpBits st 4 := by unfold lnBits; rw [if_neg h85, hst, Nat.add_sub_cancel]
    have e2 : lnBase x = 3 + stpBase st 4 := by unfold lnBase; rw [if_neg h85, hst, Nat.add_sub_cancel]
    have E := Lib.hid (And.intro e1 e2)
    have hb1 : stpBase st 4 ≤ 1000000 := stpBase_le4 st (by omega)
    have hb2 : nb l a (stpBits st 4) ≤ 16777216 := Nat.le_of_lt (Nat.lt_of_lt_of_le (nb_lt _ _ _) (Nat.pow_le_pow_right (n := 2) (j := 24) (by decide) (by unfold stpBits; split <;> omega)))
    obtain ⟨z, hz⟩ : ∃ z, stpBase st 4 + nb l a (stpBits st 4) = z := ⟨_, rfl⟩
    have Hz := Lib.hid hz
    have hw2 : IntKind.i64.wrap (3 + (z : Int)) = ((3 + z : Nat) : Int) := by rw [IntWalk.i64_in _ (by omega)]; omega
    clear h h85 e1 e2 hb1 hb2 hz
    go_enter Try.func70, Try.ntmps70
    go_wp2_with fail
    refine Calls.mono (istep4_any st (by omega) w H.out) ?_
    rw [Hz.out]
    rintro e w1 (⟨h1, rfl, hs⟩ | ⟨h1, rfl, hs⟩)
    · have Hs := Lib.hid hs
      clear hs
      go_wp2
      go_ret
      rw [E.out.1, E.out.2]
      exact .inl ⟨h1, by rw [Nat.add_assoc, Hz.out]; rfl, Hs.out⟩
    · have Hs := Lib.hid hs
      clear hs
      go_wp2
      rw [E.out.1, E.out.2]
      exact ⟨rfl, .inr ⟨h1, rfl, Hs.out⟩⟩

set_option maxHeartbeats 1000000 in
theorem idist_far (y : Nat) (w : World) (hy : 29 < y) (hy2 : y ≤ 1000000) :
    Calls Try.prog 72 #[.pointer (some ⟨S, 0, none⟩), .int .i64 (y : Int)] w fun e w' => e = thrown 80 ∧ w' = w := by
  have d : decide ((y : Int) > 29) = true := by simp; omega
  go_enter Try.func72, Try.ntmps72
  go_wp2
  exact ⟨rfl, rfl, rfl⟩

set_option maxRecDepth 20000 in
set_option maxHeartbeats 1000000 in
theorem idist_any (y : Nat) (w : World) (hy : y ≤ 29) (h : Sm w base S B sv ov uv l lim a o) :
    Calls Try.prog 72 #[.pointer (some ⟨S, 0, none⟩), .int .i64 (y : Int)] w fun e w' =>
      (a + dsBits y ≤ 8 * l.length ∧ e = .returned (.int .i64 ((dsBase y + nb l a (dsBits y) : Nat) : Int)) ∧ Sm w' base S B sv ov uv l lim (a + dsBits y) o ∧ Fr S B ov w ov w') ∨ (8 * l.length < a + dsBits y ∧ e = thrown 50 ∧ Turns (KS S B ov) w w') := by
  have H := Lib.hid h
  have d : decide ((y : Int) > 29) = false := by simp; omega
  have hb1 : stpBase y 2 ≤ 1000000 := stpBase_le2 y (by omega)
  have hb2 : nb l a (stpBits y 2) ≤ 16777216 := Nat.le_of_lt (Nat.lt_of_lt_of_le (nb_lt _ _ _) (Nat.pow_le_pow_right (n := 2) (j := 24) (by decide) (by unfold stpBits; split <;> omega)))
  obtain ⟨z, hz⟩ : ∃ z, stpBase y 2 + nb l a (stpBits y 2) = z := ⟨_, rfl⟩
  have Hz := Lib.hid hz
  have hw2 : IntKind.i64.wrap (1 + (z : Int)) = ((1 + z : Nat) : Int) := by rw [IntWalk.i64_in _ (by omega)]; omega
  clear h hb1 hb2 hz
  unfold dsBits dsBase
  go_enter Try.func72, Try.ntmps72
  go_wp2_with fail
  refine Calls.mono (istep2_any y hy w H.out) ?_
  rw [Hz.out]
  rintro e w1 (⟨h1, rfl, hs⟩ | ⟨h1, rfl, hs⟩)
  · have Hs := Lib.hid hs
    clear hs
    go_wp2
    go_ret
    exact .inl ⟨h1, by rw [Nat.add_assoc, Hz.out]; rfl, Hs.out⟩
  · have Hs := Lib.hid hs
    clear hs
    go_wp2
    exact ⟨rfl, .inr ⟨h1, rfl, Hs.out⟩⟩
end

end Go.Proofs.Ytajidlihepjegaa
