/- Several texts in one, each with its own head. -/
import Derived.Test.YtebfdoipogjpnaaGreatQd26
import Derived.Test.YtebfdoipogjpnaaGreatQs46
import Derived.Test.YtebfdoipogjpnaaGreatQd45
import Derived.BigQuiet
/- inflate: the document's tables of lengths and distances, and the statement's symbols of them. -/
namespace Go.Proofs.YtebfdoipogjpnaaGreat
open Go.RowKit Go.Maps

theorem ln_step : ∀ k, k < 285 → 257 ≤ k → k ≠ 284 → lnBase (k + 1) = lnBase k + 2 ^ lnBits k := by decide +kernel
theorem ln_low : ∀ k, k < 265 → 257 ≤ k → lnBits k = 0 := by decide +kernel
theorem ln_high : ∀ k, k < 285 → 265 ≤ k → lnBits k = (k - 261) / 4 := by decide +kernel
theorem ln_small : ∀ k, k < 286 → lnBase k ≤ 258 ∧ lnBits k ≤ 5 := by decide +kernel
theorem ln_285 : lnBase 285 = 258 ∧ lnBits 285 = 0 ∧ lnBase 257 = 3 := by decide +kernel

set_option maxHeartbeats 2000000 in
theorem base_any (s : Nat) (w : World) (h1 : 257 ≤ s) (h2 : s ≤ 285) : Calls Tryz.prog 65 #[.int .i64 (s : Int)] w fun e w' => e = .returned (.tuple #[.int .i64 (lnBase s : Int), .int .i64 (lnBits s : Int)]) ∧ w' = w := by
  go_enter Tryz.func65, Tryz.ntmps65
  by_cases h85 : s = 285
  · subst h85
    obtain ⟨e1, e2, -⟩ := ln_285
    rw [e1, e2]
    go_wp2
    go_ret2
    exact ⟨rfl, rfl⟩
  · have d0 : ((s : Int) == 285) = false := by simp; omega
    have hs : s ≤ 284 := by omega
    obtain ⟨-, -, e3⟩ := ln_285
    go_wp2
    go_loopw [4, 5] (fun nv kv wr => ∃ k : Nat, kv = .int .i64 (k : Int) ∧ nv = .int .i64 (lnBase k : Int) ∧ 257 ≤ k ∧ k ≤ s ∧ wr = w) (fun _ kv _ => s - (intOf kv).toNat)
    case atStart => exact ⟨257, rfl, by rw [e3]; rfl, Nat.le_refl _, h1, rfl⟩
    case round =>
      obtain ⟨k, rfl, rfl, hk1, hk2, rfl⟩ := hrel
      obtain ⟨hb, hm⟩ := ln_small k (by omega)
      have hlo := ln_low k
      have hhi := ln_high k (by omega)
      have hst := ln_step k (by omega) hk1
      obtain ⟨m, hmm⟩ : ∃ m, lnBits k = m := ⟨_, rfl⟩
      obtain ⟨n, hn⟩ : ∃ n, lnBase k = n := ⟨_, rfl⟩
      rw [hmm] at hm hlo hhi hst
      rw [hn] at hb hst ⊢
      by_cases hks : k = s
      · subst hks
        have d2 : ((k : Int) == (k : Int)) = true := by simp
        by_cases hkb : 264 < k
        · have d1 : decide ((k : Int) > 264) = true := by simp; omega
          have hq : m = (k - 261) / 4 := hhi hkb
          have hq1 : ((k : Int) - 261) / 4 = (m : Int) := by omega
          have hq2 : ((k : Int) - 261).tdiv 4 = (m : Int) := by rw [Int.tdiv_eq_ediv_of_nonneg (by omega)]; exact hq1
          have Hm := Lib.hid hmm
          have Hn := Lib.hid hn
          clear hq hmm hn hlo hhi hst
          go_wp2
          go_ret2
          exact ⟨by rw [Hm.out, Hn.out]; rfl, rfl⟩
        · have d1 : decide ((k : Int) > 264) = false := by simp; omega
          obtain rfl : m = 0 := hlo (by omega) hk1
          have Hm := Lib.hid hmm
          have Hn := Lib.hid hn
          clear hmm hn hlo hhi hst
          go_wp2
          go_ret2
          exact ⟨by rw [Hm.out, Hn.out]; rfl, rfl⟩
      · have d2 : ((k : Int) == (s : Int)) = false := by simp; omega
        have hst := hst (by omega)
        obtain ⟨z, hz⟩ : ∃ z, 2 ^ m = z := ⟨_, rfl⟩
        have hz1 : (2 : Int) ^ m = (z : Int) := by rw [← hz]; simp
        have hzb : z ≤ 32 := by rw [← hz]; exact Nat.pow_le_pow_right (n := 2) (j := 5) (by decide) hm
        rw [hz] at hst
        have Hst := Lib.hid hst
        by_cases hkb : 264 < k
        · have d1 : decide ((k : Int) > 264) = true := by simp; omega
          have hq : m = (k - 261) / 4 := hhi hkb
          have hq1 : ((k : Int) - 261) / 4 = (m : Int) := by omega
          have hq2 : ((k : Int) - 261).tdiv 4 = (m : Int) := by rw [Int.tdiv_eq_ediv_of_nonneg (by omega)]; exact hq1
          clear hq hmm hn hlo hhi hst hz
          go_wp2
          go_roundw
          case rel => exact ⟨k + 1, by go_num, by rw [Hst.out]; go_num, by omega, by omega, trivial⟩
          case measure => simp [intOf]; omega
        · have d1 : decide ((k : Int) > 264) = false := by simp; omega
          obtain rfl : m = 0 := hlo (by omega) hk1
          clear hmm hn hlo hhi hst
          go_wp2
          go_roundw
          case rel => exact ⟨k + 1, by go_num, by rw [Hst.out, ← hz]; go_num, by omega, by omega, trivial⟩
          case measure => simp [intOf]; omega

theorem ds_low : ∀ k, k < 4 → dsBits k = 0 := by decide +kernel
theorem ds_high : ∀ k, k < 30 → 4 ≤ k → dsBits k = (k - 2) / 2 := by decide +kernel
theorem ds_small : ∀ k, k < 30 → dsBase k ≤ 32768 ∧ dsBits k ≤ 13 := by decide +kernel
theorem ds_0 : dsBase 0 = 1 := by decide +kernel

set_option maxHeartbeats 2000000 in
theorem far_any (s : Nat) (w : World) (h2 : s ≤ 29) : Calls Tryz.prog 66 #[.int .i64 (s : Int)] w fun e w' => e = .returned (.tuple #[.int .i64 (dsBase s : Int), .int .i64 (dsBits s : Int)]) ∧ w' = w := by
  have e3 := ds_0
  go_enter Tryz.func66, Tryz.ntmps66
  go_wp2
  go_loopw [4, 5] (fun nv kv wr => ∃ k : Nat, kv = .int .i64 (k : Int) ∧ nv = .int .i64 (dsBase k : Int) ∧ k ≤ s ∧ wr = w) (fun _ kv _ => s - (intOf kv).toNat)
  case atStart => exact ⟨0, rfl, by rw [e3]; rfl, Nat.zero_le _, rfl⟩
  case round =>
    obtain ⟨k, rfl, rfl, hk2, rfl⟩ := hrel
    obtain ⟨hb, hm⟩ := ds_small k (by omega)
    have hlo := ds_low k
    have hhi := ds_high k (by omega)
    have hst := ds_step k (by omega)
    obtain ⟨m, hmm⟩ : ∃ m, dsBits k = m := ⟨_, rfl⟩
    obtain ⟨n, hn⟩ : ∃ n, dsBase k = n := ⟨_, rfl⟩
    rw [hmm] at hm hlo hhi hst
    rw [hn] at hb hst ⊢
    by_cases hks : k = s
    · subst hks
      have d2 : ((k : Int) == (k : Int)) = true := by simp
      by_cases hkb : 3 < k
      · have d1 : decide ((k : Int) > 3) = true := by simp; omega
        have hq : m = (k - 2) / 2 := hhi hkb
        have hq1 : ((k : Int) - 2) / 2 = (m : Int) := by omega
        have hq2 : ((k : Int) - 2).tdiv 2 = (m : Int) := by rw [Int.tdiv_eq_ediv_of_nonneg (by omega)]; exact hq1
        have Hm := Lib.hid hmm
        have Hn := Lib.hid hn
        clear hq hmm hn hlo hhi hst e3
        go_wp2
        go_ret2
        exact ⟨by rw [Hm.out, Hn.out]; rfl, rfl⟩
      · have d1 : decide ((k : Int) > 3) = false := by simp; omega
        obtain rfl : m = 0 := hlo (by omega)
        have Hm := Lib.hid hmm
        have Hn := Lib.hid hn
        clear hmm hn hlo hhi hst e3
        go_wp2
        go_ret2
        exact ⟨by rw [Hm.out, Hn.out]; rfl, rfl⟩
    · have d2 : ((k : Int) == (s : Int)) = false := by simp; omega
      obtain ⟨z, hz⟩ : ∃ z, 2 ^ m = z := ⟨_, rfl⟩
      have hz1 : (2 : Int) ^ m = (z : Int) := by rw [← hz]; simp
      have hzb : z ≤ 8192 := by rw [← hz]; exact Nat.pow_le_pow_right (n := 2) (j := 13) (by decide) hm
      rw [hz] at hst
      have Hst := Lib.hid hst
      by_cases hkb : 3 < k
      · have d1 : decide ((k : Int) > 3) = true := by simp; omega
        have hq : m = (k - 2) / 2 := hhi hkb
        have hq1 : ((k : Int) - 2) / 2 = (m : Int) := by omega
        have hq2 : ((k : Int) - 2).tdiv 2 = (m : Int) := by rw [Int.tdiv_eq_ediv_of_nonneg (by omega)]; exact hq1
        clear hq hmm hn hlo hhi hst hz e3
        go_wp2
        go_roundw
        case rel => exact ⟨k + 1, by go_num, by rw [Hst.out]; go_num, by omega, trivial⟩
        case measure => simp [intOf]; omega
      · have d1 : decide ((k : Int) > 3) = false := by simp; omega
        obtain rfl : m = 0 := hlo (by omega)
        clear hmm hn hlo hhi hst e3
        go_wp2
        go_roundw
        case rel => exact ⟨k + 1, by go_num, by rw [Hst.out, ← hz]; go_num, by omega, trivial⟩
        case measure => simp [intOf]; omega

theorem lnF_skip {n : Nat} : ∀ {k : Nat}, ¬ (lnBase (257 + k) ≤ n ∧ (257 + k ≠ 285 ∨ n = 258)) → lnF n (k + 1) = lnF n k := fun h => if_neg h
theorem lnF_hit {n : Nat} : ∀ {k : Nat}, (lnBase (257 + k) ≤ n ∧ (257 + k ≠ 285 ∨ n = 258)) → lnF n (k + 1) = 257 + k := fun h => if_pos h
theorem dsF_skip {d k : Nat} (h : ¬ dsBase k ≤ d) : dsF d (k + 1) = dsF d k := if_neg h
theorem dsF_hit {d k : Nat} (h : dsBase k ≤ d) : dsF d (k + 1) = k := if_pos h

end Go.Proofs.YtebfdoipogjpnaaGreat

/- deflate: what the document says two forms take. -/
namespace Go.Proofs.YtebfdoipogjpnaaGreat
open Go.RowKit Go.Maps

def lnC (n k : Nat) : Nat := if k = 0 then 0 else fixG (lnF n k) + lnBits (lnF n k)
def dsC (d k : Nat) : Nat := if k = 0 then 0 else 5 + dsBits (dsF d k)
theorem fixG_len : ∀ k, k < 29 → fixG (257 + k) = if k ≤ 22 then 7 else 8 := by decide +kernel
theorem lnC_yes {n k : Nat} (hn : n ≤ 258) (hk : k < 29) (h : lnBase (257 + k) ≤ n) : lnC n (k + 1) = (if k ≤ 22 then 7 else 8) + lnBits (257 + k) := by
  have hc : 257 + k ≠ 285 ∨ n = 258 := by
    by_cases e : 257 + k = 285
    · right
      have := ln_285.1
      rw [e, this] at h
      omega
    · exact .inl e
  have e : lnF n (k + 1) = 257 + k := by
    rw [lnF, if_pos ⟨h, hc⟩]
  unfold lnC
  rw [if_neg (by omega), e, fixG_len k hk]
theorem lnC_no {n k : Nat} (h3 : 3 ≤ n) (h : ¬ lnBase (257 + k) ≤ n) : lnC n (k + 1) = lnC n k := by
  have hk : k ≠ 0 := fun e => h (by rw [e]; have := ln_285.2.2; show lnBase 257 ≤ n; omega)
  unfold lnC
  rw [if_neg (by omega), if_neg hk, lnF, if_neg (fun h' => h h'.1)]
theorem lnC_le {n k : Nat} (hk : k ≤ 29) : lnC n k ≤ 20 := by
  unfold lnC
  split
  · omega
  · rename_i h0
    have h1 : ∀ k, k ≤ 29 → lnF n k = 0 ∨ lnF n k < 286 := fun k => by
      induction k with
      | zero => intro _; exact .inl rfl
      | succ k ih =>
        intro hk
        rw [lnF]
        split
        · right; omega
        · exact ih (by omega)
    have hx : lnF n k < 286 := by rcases h1 k hk with h | h <;> omega
    have h2 := fixG_le (lnF n k) (by omega)
    have h3 := (ln_small (lnF n k) hx).2
    omega
theorem dsC_yes {d k : Nat} (h : dsBase k ≤ d) : dsC d (k + 1) = 5 + dsBits k := by
  unfold dsC
  rw [if_neg (by omega), dsF, if_pos h]
theorem dsC_no {d k : Nat} (h1 : 1 ≤ d) (h : ¬ dsBase k ≤ d) : dsC d (k + 1) = dsC d k := by
  have hk : k ≠ 0 := fun e => h (by rw [e, ds_0]; exact h1)
  unfold dsC
  rw [if_neg (by omega), if_neg hk, dsF, if_neg h]
theorem dsC_le {d k : Nat} (hk : k ≤ 30) : dsC d k ≤ 20 := by
  unfold dsC
  split
  · omega
  · have h1 : ∀ k, k ≤ 30 → dsF d k < 30 := fun k => by
      induction k with
      | zero => intro _; exact (by decide : 0 < 30)
      | succ k ih =>
        intro hk
        rw [dsF]
        split
        · omega
        · exact ih (by omega)
    have h3 := (ds_small (dsF d k) (h1 k hk)).2
    omega

set_option maxRecDepth 20000 in
set_option maxHeartbeats 4000000 in
theorem formBits_any (n d : Nat) (w : World) (n1 : 3 ≤ n) (n2 : n ≤ 258) (d1 : 1 ≤ d) :
    Calls Tryz.prog 39 #[.int .i64 (n : Int), .int .i64 (d : Int)] w fun e w' => e = .returned (.int .i64 ((lnC n 29 + dsC d 30 : Nat) : Int)) ∧ w' = w := by
  go_enter Tryz.func39, Tryz.ntmps39
  go_wp2_with fail
  go_loopw [5, 6] (fun nv sv wr => ∃ k : Nat, sv = .int .i64 ((257 + k : Nat) : Int) ∧ nv = .int .i64 ((lnC n k : Nat) : Int) ∧ k ≤ 29 ∧ wr = w) (fun _ sv _ => 286 - (intOf sv).toNat)
  case atStart => exact ⟨0, rfl, rfl, Nat.zero_le _, rfl⟩
  case round =>
    obtain ⟨k, rfl, rfl, hk, rfl⟩ := hrel
    obtain ⟨s, hs⟩ : ∃ s, 257 + k = s := ⟨_, rfl⟩
    rw [hs]
    by_cases hk9 : k < 29
    · have dd : decide ((s : Int) ≤ 285) = true := by simp; omega
      have dd' : decide (s ≤ 285) = true := by simp; omega
      obtain ⟨hb, hm⟩ := ln_small s (by omega)
      have Hy := Lib.hid (fun h => lnC_yes (k := k) n2 hk9 h)
      have Hn := Lib.hid (fun h => lnC_no (k := k) n1 h)
      have hcl := lnC_le (n := n) hk
      rw [hs] at Hy Hn
      have Hba := Lib.hid (base_any s wr (by omega) (by omega))
      obtain ⟨B, hB⟩ : ∃ B, lnBase s = B := ⟨_, rfl⟩
      obtain ⟨M, hM⟩ : ∃ M, lnBits s = M := ⟨_, rfl⟩
      rw [hB] at Hba Hy Hn hb
      rw [hM] at Hba Hy hm
      generalize lnC n k = C at *
      have hw7 : IntKind.i64.wrap (7 + (M : Int)) = 7 + (M : Int) := IntWalk.i64_in _ (by omega)
      have hw8 : IntKind.i64.wrap (8 + (M : Int)) = 8 + (M : Int) := IntWalk.i64_in _ (by omega)
      have hw9 : IntKind.i64.wrap ((s : Int) + 1) = (s : Int) + 1 := IntWalk.i64_in _ (by omega)
      go_wp2_with fail
      refine Calls.mono Hba.out ?_
      rintro _ w2 ⟨rfl, rfl⟩
      by_cases hle : B ≤ n
      · have d3 : decide ((B : Int) ≤ (n : Int)) = true := by simp; omega
        have d3' : decide (B ≤ n) = true := by simpa using hle
        by_cases h22 : k ≤ 22
        · have d4 : decide ((s : Int) > 279) = false := by simp; omega
          have d4' : decide (279 < s) = false := by simp; omega
          have HE := Lib.hid (Hy.out hle)
          rw [if_pos h22] at HE
          clear Hy Hn
          go_wp2
          go_roundw
          case rel => exact ⟨k + 1, by go_num, by first | (rw [HE.out]; go_num) | rw [HE.out], by omega, by first | rfl | trivial⟩
          case measure => simp [intOf]; omega
        · have d4 : decide ((s : Int) > 279) = true := by simp; omega
          have d4' : decide (279 < s) = true := by simp; omega
          have HE := Lib.hid (Hy.out hle)
          rw [if_neg h22] at HE
          clear Hy Hn
          go_wp2
          go_roundw
          case rel => exact ⟨k + 1, by go_num, by first | (rw [HE.out]; go_num) | rw [HE.out], by omega, by first | rfl | trivial⟩
          case measure => simp [intOf]; omega
      · have d3 : decide ((B : Int) ≤ (n : Int)) = false := by simp; omega
        have d3' : decide (B ≤ n) = false := by simpa using hle
        have HE := Lib.hid (Hn.out hle)
        clear Hy Hn
        go_wp2
        go_roundw
        case rel => exact ⟨k + 1, by go_num, by first | (rw [HE.out]; go_num) | rw [HE.out], by omega, by first | rfl | trivial⟩
        case measure => simp [intOf]; omega
    · obtain rfl : k = 29 := by omega
      have dd : decide ((s : Int) ≤ 285) = false := by simp; omega
      have dd' : decide (s ≤ 285) = false := by simp; omega
      have hcl := lnC_le (n := n) (Nat.le_refl 29)
      obtain ⟨C, hCe⟩ : ∃ C, lnC n 29 = C := ⟨_, rfl⟩
      have HCe := Lib.hid hCe
      rw [hCe] at hcl ⊢
      clear hCe
      go_wp2_with fail
      go_loopw [9, 10] (fun mv sv wx => ∃ k : Nat, sv = .int .i64 ((k : Nat) : Int) ∧ mv = .int .i64 ((dsC d k : Nat) : Int) ∧ k ≤ 30 ∧ wx = wr) (fun _ sv _ => 31 - (intOf sv).toNat)
      case atStart => exact ⟨0, rfl, rfl, Nat.zero_le _, rfl⟩
      case round =>
        obtain ⟨k, rfl, rfl, hk, hwx⟩ := hrel
        subst hwx
        by_cases hk9 : k < 30
        · have dd : decide ((k : Int) < 30) = true := by simp; omega
          have dd' : decide (k < 30) = true := by simp; omega
          obtain ⟨hb, hm⟩ := ds_small k hk9
          have Hy := Lib.hid (fun h => dsC_yes (d := d) (k := k) h)
          have Hn := Lib.hid (fun h => dsC_no (d := d) (k := k) d1 h)
          have hcl2 := dsC_le (d := d) hk
          have Hba := Lib.hid (far_any k wr (by omega))
          obtain ⟨B, hB⟩ : ∃ B, dsBase k = B := ⟨_, rfl⟩
          obtain ⟨M, hM⟩ : ∃ M, dsBits k = M := ⟨_, rfl⟩
          rw [hB] at Hba Hy Hn hb
          rw [hM] at Hba Hy hm
          generalize dsC d k = C2 at *
          have hw7 : IntKind.i64.wrap (5 + (M : Int)) = 5 + (M : Int) := IntWalk.i64_in _ (by omega)
          go_wp2_with fail
          refine Calls.mono Hba.out ?_
          rintro _ w2 ⟨rfl, rfl⟩
          by_cases hle : B ≤ d
          · have d3 : decide ((B : Int) ≤ (d : Int)) = true := by simp; omega
            have d3' : decide (B ≤ d) = true := by simpa using hle
            have HE := Lib.hid (Hy.out hle)
            clear Hy Hn
            go_wp2
            go_roundw
            case rel => exact ⟨k + 1, by go_num, by first | (rw [HE.out]; go_num) | rw [HE.out], by omega, by first | rfl | trivial⟩
            case measure => simp [intOf]; omega
          · have d3 : decide ((B : Int) ≤ (d : Int)) = false := by simp; omega
            have d3' : decide (B ≤ d) = false := by simpa using hle
            have HE := Lib.hid (Hn.out hle)
            clear Hy Hn
            go_wp2
            go_roundw
            case rel => exact ⟨k + 1, by go_num, by first | (rw [HE.out]; go_num) | rw [HE.out], by omega, by first | rfl | trivial⟩
            case measure => simp [intOf]; omega
        · obtain rfl : k = 30 := by omega
          have dd : decide (((30 : Nat) : Int) < 30) = false := by simp
          have hcl2 := dsC_le (d := d) (Nat.le_refl 30)
          obtain ⟨C2, hC2⟩ : ∃ C, dsC d 30 = C := ⟨_, rfl⟩
          have HC2 := Lib.hid hC2
          rw [hC2] at hcl2 ⊢
          clear hC2
          go_wp2
          go_ret
          refine ⟨?_, rfl⟩
          rw [HCe.out, HC2.out]
          go_num

end Go.Proofs.YtebfdoipogjpnaaGreat

/- deflate: the document's Stored and Fixed. -/
namespace Go.Proofs.YtebfdoipogjpnaaGreat
open Go.RowKit Go.Maps

theorem fixD_5 : ∀ x, x < 32 → lq fixD x = 5 := by decide +kernel
theorem lit_costE {t : Tk} (h0 : t.n = 0) (hc : t.b < 256) : szP ((paT t).flatMap (plP [fixA, fixD])) = if t.b < 144 then 8 else 9 := by
  have e : paT t = [⟨0, t.b, 0, 0⟩] := if_pos h0
  rw [e, List.flatMap_cons, List.flatMap_nil, List.append_nil]
  show lq fixA t.b + (0 + 0) = _
  rw [fixA_lq]
  unfold fixG
  split <;> rfl
theorem rep_costE {t : Tk} {n d : Nat} (e1 : t.n = (n : Int)) (e2 : t.d = (d : Int)) (n1 : 3 ≤ n) (d1 : 1 ≤ d) (d2 : d ≤ 32768) : szP ((paT t).flatMap (plP [fixA, fixD])) = lnC n 29 + dsC d 30 := by
  have e : paT t = [lnP n, dsP d] := by
    unfold paT
    rw [if_neg (by omega)]
    have f1 : t.n.toNat = n := by omega
    have f2 : t.d.toNat = d := by omega
    rw [f1, f2]
  obtain ⟨r1, -⟩ := dsSym_ok d1 d2
  rw [e, List.flatMap_cons, List.flatMap_cons, List.flatMap_nil, List.append_nil, szP_app]
  have e1 : szP (plP [fixA, fixD] (lnP n)) = lq fixA (lnSym n) + lnBits (lnSym n) := rfl
  have e2 : szP (plP [fixA, fixD] (dsP d)) = lq fixD (dsSym d) + dsBits (dsSym d) := rfl
  rw [e1, e2, fixA_lq, fixD_5 _ (by omega)]
  rfl
theorem costF_pre (ts : List Tk) (i : Nat) : costF (ts.take i) ≤ costF ts := by
  have e : costF ts = costF (ts.take i ++ ts.drop i) := by rw [List.take_append_drop]
  rw [e]
  unfold costF
  rw [List.flatMap_append, List.flatMap_append, szP_app]
  omega
theorem costF_take {ts : List Tk} {i : Nat} (hi : i < ts.length) : costF (ts.take (i + 1)) = costF (ts.take i) + szP ((paT ts[i]).flatMap (plP [fixA, fixD])) := by
  unfold costF
  rw [List.take_succ_eq_append_getElem hi, List.flatMap_append, List.flatMap_append, szP_app]
  simp

set_option maxHeartbeats 1000000 in
theorem refStored_any (n : Nat) (w : World) (h : n ≤ 65535) : Calls Tryz.prog 12 #[.int .i64 (n : Int)] w fun e w' => e = .returned (.int .i64 ((n + 5 : Nat) : Int)) ∧ w' = w := by
  have d0 : decide ((n : Int) > 65535) = false := by simp; omega
  have d0' : decide (65535 < n) = false := by simp; omega
  have e2 : IntKind.i64.wrap ((n : Int) + 5) = (n : Int) + 5 := IntWalk.i64_in _ (by omega)
  go_enter Tryz.func12, Tryz.ntmps12
  go_wp2
  go_loopw [3, 4] (fun bv kv wr => bv = .int .i64 1 ∧ kv = .int .i64 (n : Int) ∧ wr = w) (fun _ _ _ => 0)
  case atStart => exact ⟨rfl, rfl, rfl⟩
  case round =>
    obtain ⟨rfl, rfl, rfl⟩ := hrel
    go_wp2
    go_ret
    exact ⟨rfl, rfl⟩

set_option maxRecDepth 20000 in
set_option maxHeartbeats 4000000 in
theorem refFixed_any (v : Value) (b : List Nat) (w : World) (hv : Rw8 w v b) (hby : ∀ x ∈ b, x < 256) (hl : b.length ≤ 1200) :
    Calls Tryz.prog 13 #[v] w fun e w' => ∃ ts, Toks (fb b) b.length 0 ts ∧ e = .returned (.int .i64 (((szP (fixP ts) + 7) / 8 : Nat) : Int)) ∧ Below w.heap.size w w' := by
  have hM := Lib.hid (refMatch_any b v w hv.row (by omega))
  have hpos := hv.row
  obtain ⟨p, c, rfl, -⟩ := hv.cells
  clear hpos
  go_enter Tryz.func13, Tryz.ntmps13
  go_wp2_with fail
  refine Calls.mono hM.out ?_
  rintro _ w1 ⟨vt, ts, rfl, ho1, ht1, hb1⟩
  have hle := ht1.le.2
  have Ht1 := Lib.hid ht1
  have Hb1 := Lib.hid hb1
  have hx := ht1.tell (by omega)
  have h2 : (xp ts []).2 = 0 := by rw [hx]
  have Hok := Lib.hid (xp_okD h2)
  have H256 : Hid (∀ t ∈ ts, t.b < 256) := Lib.hid (toks_256 ht1 hby)
  have hs2 := fix_sz hx
  have hcost0 : costF ts ≤ 15 * b.length + 15 := by
    have := fixP_cost ts
    unfold fixP at this
    rw [szP_app] at this
    simp only [szP] at this
    omega
  obtain ⟨pt, ct, rfl, hc⟩ := ho1.row.tok
  have Hc := Lib.hid hc
  obtain ⟨nt, hnt⟩ : ∃ n, ts.length = n := ⟨_, rfl⟩
  have Hnt := Lib.hid hnt
  rw [hnt] at hle ⊢
  have Hcost := Lib.hid hcost0
  clear ho1 ht1 hb1 hx h2 hc hnt hs2 hM hcost0 hv
  go_wp2_with fail
  go_loopw [3, 5] (fun nv iv wr => ∃ i : Nat, iv = .int .i64 (i : Int) ∧ i ≤ nt ∧ nv = .int .i64 ((10 + costF (ts.take i) : Nat) : Int) ∧ Hid (Below w1.heap.size w1 wr)) (fun _ iv _ => nt - (intOf iv).toNat)
  case atStart => exact ⟨0, rfl, Nat.zero_le _, by rw [List.take_zero]; rfl, Lib.hid (Below.refl _ _)⟩
  case round =>
    obtain ⟨i, rfl, hi, rfl, HB⟩ := hrel
    by_cases hin : i < nt
    · have d1 : decide ((i : Int) < (nt : Int)) = true := by simp; omega
      have d1' : decide (i < nt) = true := by simpa using hin
      have hin' : i < ts.length := by rw [Hnt.out]; exact hin
      obtain ⟨g, off, rfl, x0, x1, x2⟩ := Hc.out i hin'
      replace x0 := cell_later HB.out x0
      replace x1 := cell_later HB.out x1
      replace x2 := cell_later HB.out x2
      have hct := costF_take hin'
      have hmem := List.getElem_mem hin'
      have h1 := Hok.out _ hmem
      have h6 := H256.out _ hmem
      have hcl := Nat.le_trans (costF_pre ts i) Hcost.out
      generalize ts[i]'hin' = t at *
      obtain ⟨C, hC⟩ : ∃ C, costF (ts.take i) = C := ⟨_, rfl⟩
      rw [hC] at hct hcl ⊢
      have Hct := Lib.hid hct
      clear hct hmem hC
      have i0 : (0 : Int) ≤ (i : Int) := by omega
      have i1 : (i : Int) < (nt : Int) := by omega
      rcases tk_okD h1 with h0 | ⟨n, d, e1, e2, n1, n2, n3, n4⟩
      · have hlit := lit_costE h0 h6
        rw [h0] at x1
        obtain ⟨bb, hbb⟩ : ∃ bb, t.b = bb := ⟨_, rfl⟩
        rw [hbb] at x0 hlit h6
        by_cases h144 : bb < 144
        · rw [if_pos h144] at hlit
          have d3 : decide ((bb : Int) < 144) = true := by simp; omega
          have d3' : decide (bb < 144) = true := by simpa using h144
          have HE : Hid (costF (ts.take (i + 1)) = C + 8) := Lib.hid (by rw [Hct.out, hlit])
          clear hlit h1 x2 hbb h0
          go_wp2
          go_roundw
          case rel => exact ⟨i + 1, by go_num, by omega, by rw [HE.out]; go_num, HB⟩
          case measure => simp [intOf]; omega
        · rw [if_neg h144] at hlit
          have d3 : decide ((bb : Int) < 144) = false := by simp; omega
          have d3' : decide (bb < 144) = false := by simpa using h144
          have HE : Hid (costF (ts.take (i + 1)) = C + 9) := Lib.hid (by rw [Hct.out, hlit])
          clear hlit h1 x2 hbb h0
          go_wp2
          go_roundw
          case rel => exact ⟨i + 1, by go_num, by omega, by rw [HE.out]; go_num, HB⟩
          case measure => simp [intOf]; omega
      · have hrep := rep_costE e1 e2 n1 n3 n4
        rw [e1] at x1
        rw [e2] at x2
        have hl1 := lnC_le (n := n) (Nat.le_refl 29)
        have hl2 := dsC_le (d := d) (Nat.le_refl 30)
        have HF : Hid (∀ k, Calls Tryz.prog 39 #[.int .i64 (n : Int), .int .i64 (d : Int)] (wr.drewN k) fun e w' => e = .returned (.int .i64 ((lnC n 29 + dsC d 30 : Nat) : Int)) ∧ w' = wr.drewN k) := Lib.hid fun k => formBits_any n d _ n1 n2 n3
        obtain ⟨X, hX⟩ : ∃ X, lnC n 29 + dsC d 30 = X := ⟨_, rfl⟩
        rw [hX] at HF hrep
        have hX2 : X ≤ 40 := by omega
        have HE : Hid (costF (ts.take (i + 1)) = C + X) := Lib.hid (by rw [Hct.out, hrep])
        have d3 : decide ((n : Int) > 0) = true := by simp; omega
        have d3' : decide (0 < n) = true := by simp; omega
        have hw1 : IntKind.i64.wrap ((10 : Int) + (C : Int) + (X : Int)) = (10 : Int) + (C : Int) + (X : Int) := IntWalk.i64_in _ (by omega)
        clear hrep h1 x0 e1 e2 hX hl1 hl2
        have HN : Hid (∀ k, Below w1.heap.size w1 (wr.drewN k)) := Lib.hid fun k => Below.drewN' HB.out k
        go_upto_region 8 with (fail)
        go_quiet ((go_at_call 39; with_reducible exact Calls.quiet_of_same (HF.out _)))
        rename_i nq
        have HN1 := Lib.hid (HN.out nq)
        generalize wr.drewN nq = w3 at *
        clear HF HN x1 x2
        go_wp2
        go_roundw
        case rel => exact ⟨i + 1, by go_num, by omega, by rw [HE.out]; go_num, HN1⟩
        case measure => simp [intOf]; omega
    · obtain rfl : i = nt := by omega
      have d1 : decide ((i : Int) < (i : Int)) = false := by simp
      have d1' : decide (i < i) = false := by simp
      have hE : ts.take i = ts := List.take_of_length_le (by rw [Hnt.out]; exact Nat.le_refl _)
      rw [hE]
      have hcl := Hcost.out
      have Hfc := Lib.hid (fixP_cost ts)
      obtain ⟨C, hC⟩ : ∃ C, costF ts = C := ⟨_, rfl⟩
      rw [hC] at hcl Hfc ⊢
      obtain ⟨q, hq⟩ : ∃ q, (10 + C + 7) / 8 = q := ⟨_, rfl⟩
      have Hq := Lib.hid hq
      have q1 : ((10 : Int) + (C : Int) + 7) / 8 = (q : Int) := by omega
      have q1' : ((10 : Int) + (C : Int) + 7).tdiv 8 = (q : Int) := by rw [Int.tdiv_eq_ediv_of_nonneg (by omega)]; exact q1
      have q2 : IntKind.i64.wrap ((10 : Int) + (C : Int) + 7) = (10 : Int) + (C : Int) + 7 := IntWalk.i64_in _ (by omega)
      have q3 : IntKind.i64.wrap (q : Int) = (q : Int) := IntWalk.i64_in _ (by omega)
      have q3' : wrap64 (q : Int) = (q : Int) := wrap64_in _ (by omega)
      clear hE hC hq
      go_wp2
      go_ret
      exact ⟨ts, Ht1.out, by rw [Hfc.out, Hq.out]; rfl, Below.thn Hb1.out HB.out⟩

end Go.Proofs.YtebfdoipogjpnaaGreat
