/- The walk of the statement LzSplit. -/
import Derived.Test.YtngiiacibbgiiaaLzM
import Derived.Test.YtngiiacibbgiiaaAfter
namespace Go.Proofs.Ytngiiacibbgiiaa
open Go.RowKit

theorem Row.takeN {α : Type} {enc : α → List Value} {k : Nat} {w : World} {p : Option Addr} {n c m : Nat} {xs : List α} (h : Row enc k w (.slice p n c) xs) (hm : m ≤ xs.length) : Row enc k w (.slice p m c) (xs.take m) := by
  obtain ⟨p', c', e, h1, h2, h3⟩ := h
  cases e
  have hl : (xs.take m).length = m := by rw [List.length_take]; omega
  refine ⟨p, c, by rw [hl], by omega, h2, ?_⟩
  rcases h3 with ⟨h, rfl⟩ | ⟨b, off, rfl, hb, h4⟩
  · exact .inl ⟨h, by simp⟩
  · refine .inr ⟨b, off, rfl, hb, fun i x hx => h4 i x ?_⟩
    rw [List.getElem?_take] at hx
    split at hx
    · exact hx
    · cases hx

set_option maxRecDepth 20000 in
set_option maxHeartbeats 8000000 in
theorem zsplit_any (v : Value) (ts : List Tk) (numI : Int) (w : World) (hv : RwG encT 3 w v ts) (hnum : 0 ≤ numI ∧ numI ≤ 255) :
    Makes Try.prog 7 #[v, .int .u8 numI] w (.bool true) := by
  unfold Makes
  have Hv := Lib.hid hv.row
  obtain ⟨p, c, rfl, hc1, hc2, -⟩ := hv.src encT_len (by decide)
  obtain ⟨num, rfl⟩ := Int.eq_ofNat_of_zero_le hnum.1
  have hnum2 : num ≤ 255 := by omega
  clear hv hnum
  obtain ⟨q, hq⟩ : ∃ q, ts.length = q := ⟨_, rfl⟩
  have Hq := Lib.hid hq
  rw [hq] at hc1 Hv ⊢
  clear hq
  obtain ⟨n, hn⟩ : ∃ n, num % (q + 1) = n := ⟨_, rfl⟩
  have hnq : n ≤ q := by rw [← hn]; exact Nat.lt_succ_iff.1 (Nat.mod_lt _ (by omega))
  have e1 : (num : Int) % ((q : Int) + 1) = (n : Int) := by rw [← hn]; simp
  have e2 : Int.tmod (num : Int) ((q : Int) + 1) = (n : Int) := by
    rw [Int.tmod_eq_emod_of_nonneg (by omega)]; exact e1
  have hn0 : q = 0 → n = 0 := fun h => by omega
  go_enter Try.func7, Try.ntmps7
  by_cases hl : 200 < q
  · have d0 : decide ((q : Int) > 200) = true := by simp; omega
    go_wp2
    go_ret
    exact ⟨rfl, Below.refl _ _⟩
  have d0 : decide ((q : Int) > 200) = false := by simp; omega
  have h0n : (0 : Int) ≤ (n : Int) := by omega
  have h0c : (n : Int) ≤ (c : Int) := by omega
  obtain ⟨R, hR⟩ : ∃ R, xp ts [] = R := ⟨_, rfl⟩
  obtain ⟨R', hR'⟩ : ∃ R, xp (ts.take n) [] = R := ⟨_, rfl⟩
  have HR := Lib.hid (And.intro hR hR')
  have hcall := fun w' (hb : Below w.heap.size w w') => expand_any ts (.slice p q c) w' (Hv.out.below hb) (by rw [Hq.out]; omega)
  have hcall2 := fun w' (hb : Below w.heap.size w w') => expand_any (ts.take n) (.slice p n c) w' ((Hv.out.below hb).takeN (by rw [Hq.out]; exact hnq)) (by rw [List.length_take]; omega)
  rw [hR] at hcall
  rw [hR'] at hcall2
  have Hc1 := Lib.hid hcall
  have Hc2 := Lib.hid hcall2
  clear hn hR hR' hcall hcall2
  by_cases hq0 : 0 < q
  · have d1 : decide ((q : Int) > 0) = true := by simp; omega
    clear hn0
    go_wp2_with fail
    refine Calls.mono (Hc1.out w (Below.refl _ _)) ?_
    rintro e w2 ⟨v2, rfl, ho2, hb2⟩
    have Hb2 := Lib.hid hb2
    have Ho2 := Lib.hid (Row.own8 ho2)
    have hcap2 : ∃ p2 c2, v2 = .slice p2 R.1.length c2 ∧ R.1.length ≤ c2 := by
      obtain ⟨p2, c2, e, h, -⟩ := Row.own8 ho2
      exact ⟨p2, c2, e, h⟩
    obtain ⟨p2, c2, rfl, hcap2⟩ := hcap2
    clear ho2 hb2
    go_wp2_with fail
    refine Calls.mono (Hc2.out w2 Hb2.out) ?_
    rintro e w3 ⟨v3, rfl, ho3, hb3⟩
    have Hb3 := Lib.hid (Below.thn Hb2.out hb3)
    have Ho3 := Lib.hid (Row.own8 ho3)
    have Ha3 := Lib.hid (Ho2.out.below hb3)
    obtain ⟨p3, c3, rfl⟩ := owns_slice ho3
    clear ho3 hb3
    by_cases hok : R.2 = 0
    · obtain ⟨t1, t2⟩ := xp_take ts n (by rw [HR.out.1]; exact hok)
      rw [HR.out.2] at t1 t2
      rw [HR.out.1] at t2
      obtain ⟨L, e⟩ := R
      obtain ⟨L', e'⟩ := R'
      simp only at hok t1 t2 hcap2 ⊢
      subst hok t1
      have hle : L'.length ≤ L.length := t2.length_le
      have hsl := Ha3.out.takeN hle
      rw [show L.take L'.length = L' from (List.prefix_iff_eq_take.1 t2).symm] at hsl
      have hs1 := fun m : After w3 => str_row (hsl.below m.below)
      have hs2 := fun m : After w3 => str_row (Ho3.out.below m.below)
      generalize strN L' = S at hs1 hs2
      obtain ⟨a, ha⟩ : ∃ a, L.length = a := ⟨_, rfl⟩
      obtain ⟨b, hb⟩ : ∃ b, L'.length = b := ⟨_, rfl⟩
      simp only [hb] at hs1 hs2 hle ⊢
      simp only [ha] at hle hcap2 ⊢
      have g0 : (0 : Int) ≤ (b : Int) := by omega
      have g1 : (b : Int) ≤ (c2 : Int) := by omega
      have g2 : b ≤ c2 := by omega
      have d2 : decide (b ≤ a) = true := by simpa using hle
      clear ha hb hsl t2
      go_upto_region 9 with (fail)
      have hne := After.ne w3
      refine wp_region_after (by kernel_rfl) (by kernel_rfl) ?_
      repeat (first
        | (go_big_quiet_step ((go_at_call 12; exact Makes.after (matches_law _))))
        | (refine ⟨_, fun _ => rfl, ?_⟩; go_big_quiet_on))
      refine wpQuiet_nil ?_
      rintro _ ⟨nq, rfl⟩
      go_wp2
      go_ret
      exact ⟨rfl, Below.thn Hb3.out nq.below⟩
    · have hempty := xp_bad ts [] (by rw [HR.out.1]; exact hok)
      rw [HR.out.1] at hempty
      obtain ⟨L, e⟩ := R
      simp only at hok hempty ⊢
      subst hempty
      have d3 : (e == 0) = false := by simpa using hok
      go_wp2_with fail
      refine Calls.mono (matches_law w3) ?_
      rintro e w9 ⟨rfl, hb9⟩
      have Hb9 := Lib.hid (Below.thn Hb3.out hb9)
      clear hb9
      go_wp2
      go_ret
      exact ⟨rfl, Hb9.out⟩
  · obtain rfl : q = 0 := by omega
    obtain rfl : n = 0 := hn0 rfl
    have d1 : decide (((0 : Nat) : Int) > 0) = false := by simp
    go_wp2_with fail
    refine Calls.mono (Hc1.out w (Below.refl _ _)) ?_
    rintro e w2 ⟨v2, rfl, ho2, hb2⟩
    have Hb2 := Lib.hid hb2
    have Ho2 := Lib.hid (Row.own8 ho2)
    have hcap2 : ∃ p2 c2, v2 = .slice p2 R.1.length c2 ∧ R.1.length ≤ c2 := by
      obtain ⟨p2, c2, e, h, -⟩ := Row.own8 ho2
      exact ⟨p2, c2, e, h⟩
    obtain ⟨p2, c2, rfl, hcap2⟩ := hcap2
    clear ho2 hb2
    go_wp2_with fail
    refine Calls.mono (Hc2.out w2 Hb2.out) ?_
    rintro e w3 ⟨v3, rfl, ho3, hb3⟩
    have Hb3 := Lib.hid (Below.thn Hb2.out hb3)
    have Ho3 := Lib.hid (Row.own8 ho3)
    have Ha3 := Lib.hid (Ho2.out.below hb3)
    obtain ⟨p3, c3, rfl⟩ := owns_slice ho3
    clear ho3 hb3
    by_cases hok : R.2 = 0
    · obtain ⟨t1, t2⟩ := xp_take ts 0 (by rw [HR.out.1]; exact hok)
      rw [HR.out.2] at t1 t2
      rw [HR.out.1] at t2
      obtain ⟨L, e⟩ := R
      obtain ⟨L', e'⟩ := R'
      simp only at hok t1 t2 hcap2 ⊢
      subst hok t1
      have hle : L'.length ≤ L.length := t2.length_le
      have hsl := Ha3.out.takeN hle
      rw [show L.take L'.length = L' from (List.prefix_iff_eq_take.1 t2).symm] at hsl
      have hs1 := fun m : After w3 => str_row (hsl.below m.below)
      have hs2 := fun m : After w3 => str_row (Ho3.out.below m.below)
      generalize strN L' = S at hs1 hs2
      obtain ⟨a, ha⟩ : ∃ a, L.length = a := ⟨_, rfl⟩
      obtain ⟨b, hb⟩ : ∃ b, L'.length = b := ⟨_, rfl⟩
      simp only [hb] at hs1 hs2 hle ⊢
      simp only [ha] at hle hcap2 ⊢
      have g0 : (0 : Int) ≤ (b : Int) := by omega
      have g1 : (b : Int) ≤ (c2 : Int) := by omega
      have g2 : b ≤ c2 := by omega
      have d2 : decide (b ≤ a) = true := by simpa using hle
      clear ha hb hsl t2
      go_upto_region 9 with (fail)
      have hne := After.ne w3
      refine wp_region_after (by kernel_rfl) (by kernel_rfl) ?_
      repeat (first
        | (go_big_quiet_step ((go_at_call 12; exact Makes.after (matches_law _))))
        | (refine ⟨_, fun _ => rfl, ?_⟩; go_big_quiet_on))
      refine wpQuiet_nil ?_
      rintro _ ⟨nq, rfl⟩
      go_wp2
      go_ret
      exact ⟨rfl, Below.thn Hb3.out nq.below⟩
    · have hempty := xp_bad ts [] (by rw [HR.out.1]; exact hok)
      rw [HR.out.1] at hempty
      obtain ⟨L, e⟩ := R
      simp only at hok hempty ⊢
      subst hempty
      have d3 : (e == 0) = false := by simpa using hok
      go_wp2_with fail
      refine Calls.mono (matches_law w3) ?_
      rintro e w9 ⟨rfl, hb9⟩
      have Hb9 := Lib.hid (Below.thn Hb3.out hb9)
      clear hb9
      go_wp2
      go_ret
      exact ⟨rfl, Hb9.out⟩

end Go.Proofs.Ytngiiacibbgiiaa
