/- The library's heap over huff's queue: up, down, Push, Pop. -/
import Derived.Test.YtajidlihepjegaaK89
namespace Go.Proofs.Ytajidlihepjegaa
open Go.RowKit

theorem Qu.below {w w' : World} {base B : Nat} {sv : Value} {E : List (Nat × Nat)} (h : Qu w base B sv E) (hb : Below w.heap.size w w') : Qu w' base B sv E :=
  h.put (Turns.of_below' hb) ((Turns.of_below' (T := fun _ => False) hb).owns h.own (fun _ _ h => h)) (fun _ he => he)

set_option maxRecDepth 100000 in
set_option maxHeartbeats 1000000 in
theorem up_any (base B : Nat) (sv : Value) (E : List (Nat × Nat)) (j : Nat) (w : World) (h : Qu w base B sv E) (hj : j < E.length) (hu : HpUp (kk E) E.length j) (hlen : E.length ≤ 65536) :
    Calls Try.prog 85 #[.iface 127 (.pointer (some ⟨B, 0, none⟩)), .int .i64 (j : Int)] w fun e w' => e = .returned (.tuple #[]) ∧ ∃ E', E'.Perm E ∧ Hp (kk E') E'.length ∧ Qu w' base B sv E' ∧ Turns (fun b => sv.ownBlock = some b) w w' := by
  obtain ⟨n, hn⟩ : ∃ n, E.length = n := ⟨_, rfl⟩
  rw [hn] at hlen hj hu
  have H := Lib.hid h
  have Hu := Lib.hid hu
  have Hn := Lib.hid hn
  clear h hu hn
  go_enter Try.func85, Try.ntmps85
  go_wp2
  go_loopw [1] (fun jv wr => ∃ (k : Nat) (F : List (Nat × Nat)), jv = .int .i64 (k : Int) ∧ k < n ∧ Hid (F.length = n ∧ F.Perm E ∧ HpUp (kk F) n k) ∧ Hid (Qu wr base B sv F) ∧ Hid (Turns (fun b => sv.ownBlock = some b) w wr)) (fun jv _ => (intOf jv).toNat)
  case atStart => exact ⟨j, E, rfl, hj, Lib.hid ⟨Hn.out, List.Perm.refl _, Hu.out⟩, H, Lib.hid (Turns.refl _ _)⟩
  case round =>
    obtain ⟨k, F, rfl, hk, HF, HQ, HT⟩ := hrel
    have c0 := HQ.out.c0
    have m1 := fun q => method_less q ⟨B, 0, none⟩ sv wr c0
    by_cases h0 : k = 0
    · subst h0
      go_wp2
      go_end0
      obtain ⟨h1, h2, h3⟩ := HF.out
      exact ⟨rfl, F, h2, h1 ▸ h3.done (.inl rfl), HQ.out, HT.out⟩
    · obtain ⟨i, hi⟩ : ∃ i, (k - 1) / 2 = i := ⟨_, rfl⟩
      have hik : i < k := by omega
      have hi1 : ((k : Int) - 1).tdiv 2 = (i : Int) := by
        rw [show ((k : Int) - 1) = ((k - 1 : Nat) : Int) by omega]
        rw [← hi]; rfl
      have e1 : ((i : Int) == (k : Int)) = false := by simp; omega
      have hF := HF.out.1
      have Hi := Lib.hid hi
      clear hi
      go_wp2_with fail
      refine Calls.mono (qless_any base B sv F k i wr HQ.out (by omega) (by omega)) ?_
      rintro e w1 ⟨rfl, hb1⟩
      have HQ1 := Lib.hid (HQ.out.below hb1)
      have HT1 := Lib.hid (HT.out.trans (Turns.of_below' (T := fun b => sv.ownBlock = some b) hb1))
      have c1 := HQ1.out.c0
      have m2 := fun q => method_swap q ⟨B, 0, none⟩ sv w1 c1
      clear hb1 m1 c0
      obtain ⟨lt, hlt⟩ : ∃ lt, decide (F[k].2 < F[i].2) = lt := ⟨_, rfl⟩
      rw [hlt]
      have Hlt := Lib.hid hlt
      clear hlt
      cases lt with
      | false =>
        go_wp2
        go_end0
        obtain ⟨h1, h2, h3⟩ := HF.out
        refine ⟨rfl, F, h2, ?_, HQ1.out, HT1.out⟩
        rw [h1]
        refine h3.done (.inr ?_)
        have := of_decide_eq_false Hlt.out
        rw [Hi.out, kk_at (by omega), kk_at (by omega)]
        omega
      | true =>
        go_wp2_with fail
        refine Calls.mono (qswap_any base B sv F i k w1 HQ1.out (by omega) (by omega) (by omega)) ?_
        rintro e w2 ⟨rfl, hq2, ht2⟩
        have HQ2 : Hid (Qu w2 base B sv (swp F i k)) := Lib.hid (by rw [swp_eq (by omega) (by omega)]; exact hq2)
        have HT2 := Lib.hid (HT1.out.trans ht2)
        have HF2 : Hid ((swp F i k).length = n ∧ (swp F i k).Perm E ∧ HpUp (kk (swp F i k)) n i) := Lib.hid (by
          obtain ⟨h1, h2, h3⟩ := HF.out
          have h4 := HpUp.step h1.symm h3 (by omega) hk (by
            have := of_decide_eq_true Hlt.out
            rw [Hi.out, kk_at (by omega), kk_at (by omega)]
            exact this)
          rw [Hi.out] at h4
          exact ⟨(swp_len F i k).trans h1, (swp_perm (by omega) (by omega)).trans h2, h4⟩)
        clear hq2 ht2
        go_wp2
        go_roundw
        case rel => exact ⟨i, swp F i k, rfl, by omega, HF2, HQ2, HT2⟩
        case measure => simp [intOf]; omega

set_option maxRecDepth 100000 in
set_option maxHeartbeats 2000000 in
theorem down_any (base B : Nat) (sv : Value) (E : List (Nat × Nat)) (m : Nat) (w : World) (h : Qu w base B sv E) (hm : m < E.length) (hd : HpDn (kk E) m 0) (hlen : E.length ≤ 65536) :
    Calls Try.prog 86 #[.iface 127 (.pointer (some ⟨B, 0, none⟩)), .int .i64 0, .int .i64 (m : Int)] w fun e w' => (∃ v, e = .returned v) ∧ ∃ E', E'.Perm E ∧ Hp (kk E') m ∧ (∀ k, m ≤ k → E'[k]? = E[k]?) ∧ Qu w' base B sv E' ∧ Turns (fun b => sv.ownBlock = some b) w w' := by
  have H := Lib.hid h
  have Hd := Lib.hid hd
  clear h hd
  go_enter Try.func86, Try.ntmps86
  go_wp2
  go_loopw [7] (fun iv wr => ∃ (i : Nat) (F : List (Nat × Nat)), iv = .int .i64 (i : Int) ∧ i ≤ m ∧ Hid (F.length = E.length ∧ F.Perm E ∧ HpDn (kk F) m i ∧ ∀ k, m ≤ k → F[k]? = E[k]?) ∧ Hid (Qu wr base B sv F) ∧ Hid (Turns (fun b => sv.ownBlock = some b) w wr)) (fun iv _ => m - (intOf iv).toNat)
  case atStart => exact ⟨0, E, rfl, Nat.zero_le _, Lib.hid ⟨rfl, List.Perm.refl _, Hd.out, fun _ _ => rfl⟩, H, Lib.hid (Turns.refl _ _)⟩
  case round =>
    obtain ⟨i, F, rfl, hi, HF, HQ, HT⟩ := hrel
    have hF := HF.out.1
    obtain ⟨c, hc⟩ : ∃ c, 2 * i + 1 = c := ⟨_, rfl⟩
    have hca : 2 * (i : Int) + 1 = (c : Int) := by omega
    have hn0 : ¬ ((c : Int) < 0) := by omega
    by_cases h1 : c < m
    · have d1 : ¬ ((m : Int) ≤ (c : Int)) := by omega
      by_cases h2 : c + 1 < m
      · obtain ⟨d, hd⟩ : ∃ d, c + 1 = d := ⟨_, rfl⟩
        have hcd : (c : Int) + 1 = (d : Int) := by omega
        have d2 : (d : Int) < (m : Int) := by omega
        have c0 := HQ.out.c0
        have m1 := fun q => method_less q ⟨B, 0, none⟩ sv wr c0
        go_wp2_with fail
        refine Calls.mono (qless_any base B sv F d c wr HQ.out (by omega) (by omega)) ?_
        rintro e w3 ⟨rfl, hb3⟩
        have HQ3 := Lib.hid (HQ.out.below hb3)
        have HT3 := Lib.hid (HT.out.trans (Turns.of_below' (T := fun b => sv.ownBlock = some b) hb3))
        clear hb3 m1 c0
        obtain ⟨lc, hlc⟩ : ∃ lc, decide (F[d].2 < F[c].2) = lc := ⟨_, rfl⟩
        rw [hlc]
        have Hlc := Lib.hid hlc
        clear hlc
        cases lc with
        | true =>
          obtain ⟨j, hj⟩ : ∃ j, d = j := ⟨_, rfl⟩
          have Hmin : Hid (∀ k, 0 < k → k < m → (k - 1) / 2 = i → kk F j ≤ kk F k) := Lib.hid (fun k k0 kn hk => by
            have h3 := of_decide_eq_true Hlc.out
            rw [kk_at (by omega), kk_at (by omega)]
            by_cases e : k = c
            · subst e; subst hj; omega
            · obtain rfl : k = j := by omega
              exact Nat.le_refl _)
          subst hj
          have cj := HQ3.out.c0
          have mj := fun q => method_less q ⟨B, 0, none⟩ sv w3 cj
          go_wp2_with fail
          refine Calls.mono (qless_any base B sv F d i w3 HQ3.out (by omega) (by omega)) ?_
          rintro e w4 ⟨rfl, hb4⟩
          have HQ4 := Lib.hid (HQ3.out.below hb4)
          have HT4 := Lib.hid (HT3.out.trans (Turns.of_below' (T := fun b => sv.ownBlock = some b) hb4))
          have c4 := HQ4.out.c0
          have m4 := fun q => method_swap q ⟨B, 0, none⟩ sv w4 c4
          clear hb4 mj cj
          obtain ⟨lt, hlt⟩ : ∃ lt, decide (F[d].2 < F[i].2) = lt := ⟨_, rfl⟩
          rw [hlt]
          have Hlt := Lib.hid hlt
          clear hlt
          cases lt with
          | false =>
            go_wp2
            go_ret
            obtain ⟨h1, h2, h3, h4⟩ := HF.out
            refine ⟨⟨_, rfl⟩, F, h2, ?_, h4, HQ4.out, HT4.out⟩
            refine h3.done (fun k k0 kn hk => ?_)
            have := of_decide_eq_false Hlt.out
            have h5 := Hmin.out k k0 kn hk
            rw [kk_at (by omega)] at h5 ⊢
            rw [kk_at (by omega)] at h5
            rw [kk_at (by omega)]
            omega
          | true =>
            go_wp2_with fail
            refine Calls.mono (qswap_any base B sv F i d w4 HQ4.out (by omega) (by omega) (by omega)) ?_
            rintro e w5 ⟨rfl, hq5, ht5⟩
            have HQ5 : Hid (Qu w5 base B sv (swp F i d)) := Lib.hid (by rw [swp_eq (by omega) (by omega)]; exact hq5)
            have HT5 := Lib.hid (HT4.out.trans ht5)
            have HF5 : Hid ((swp F i d).length = E.length ∧ (swp F i d).Perm E ∧ HpDn (kk (swp F i d)) m d ∧ ∀ k, m ≤ k → (swp F i d)[k]? = E[k]?) := Lib.hid (by
              obtain ⟨h1, h2, h3, h4⟩ := HF.out
              refine ⟨(swp_len F i d).trans h1, (swp_perm (by omega) (by omega)).trans h2, HpDn.step (by omega) h3 (by omega) (by omega) (by omega) Hmin.out (by
                have := of_decide_eq_true Hlt.out
                rw [kk_at (by omega), kk_at (by omega)]
                exact this), fun k hk => ?_⟩
              unfold swp
              rw [List.getElem?_set_ne (by omega), List.getElem?_set_ne (by omega)]
              exact h4 k hk)
            clear hq5 ht5
            go_wp2
            go_roundw
            case rel => exact ⟨d, swp F i d, by go_num, by omega, HF5, HQ5, HT5⟩
            case measure => simp [intOf]; omega
        | false =>
          obtain ⟨j, hj⟩ : ∃ j, c = j := ⟨_, rfl⟩
          have Hmin : Hid (∀ k, 0 < k → k < m → (k - 1) / 2 = i → kk F j ≤ kk F k) := Lib.hid (fun k k0 kn hk => by
            have h3 := of_decide_eq_false Hlc.out
            rw [kk_at (by omega), kk_at (by omega)]
            by_cases e : k = c
            · subst e; subst hj; exact Nat.le_refl _
            · obtain rfl : k = d := by omega
              subst hj
              omega)
          subst hj
          have cj := HQ3.out.c0
          have mj := fun q => method_less q ⟨B, 0, none⟩ sv w3 cj
          go_wp2_with fail
          refine Calls.mono (qless_any base B sv F c i w3 HQ3.out (by omega) (by omega)) ?_
          rintro e w4 ⟨rfl, hb4⟩
          have HQ4 := Lib.hid (HQ3.out.below hb4)
          have HT4 := Lib.hid (HT3.out.trans (Turns.of_below' (T := fun b => sv.ownBlock = some b) hb4))
          have c4 := HQ4.out.c0
          have m4 := fun q => method_swap q ⟨B, 0, none⟩ sv w4 c4
          clear hb4 mj cj
          obtain ⟨lt, hlt⟩ : ∃ lt, decide (F[c].2 < F[i].2) = lt := ⟨_, rfl⟩
          rw [hlt]
          have Hlt := Lib.hid hlt
          clear hlt
          cases lt with
          | false =>
            go_wp2
            go_ret
            obtain ⟨h1, h2, h3, h4⟩ := HF.out
            refine ⟨⟨_, rfl⟩, F, h2, ?_, h4, HQ4.out, HT4.out⟩
            refine h3.done (fun k k0 kn hk => ?_)
            have := of_decide_eq_false Hlt.out
            have h5 := Hmin.out k k0 kn hk
            rw [kk_at (by omega)] at h5 ⊢
            rw [kk_at (by omega)] at h5
            rw [kk_at (by omega)]
            omega
          | true =>
            go_wp2_with fail
            refine Calls.mono (qswap_any base B sv F i c w4 HQ4.out (by omega) (by omega) (by omega)) ?_
            rintro e w5 ⟨rfl, hq5, ht5⟩
            have HQ5 : Hid (Qu w5 base B sv (swp F i c)) := Lib.hid (by rw [swp_eq (by omega) (by omega)]; exact hq5)
            have HT5 := Lib.hid (HT4.out.trans ht5)
            have HF5 : Hid ((swp F i c).length = E.length ∧ (swp F i c).Perm E ∧ HpDn (kk (swp F i c)) m c ∧ ∀ k, m ≤ k → (swp F i c)[k]? = E[k]?) := Lib.hid (by
              obtain ⟨h1, h2, h3, h4⟩ := HF.out
              refine ⟨(swp_len F i c).trans h1, (swp_perm (by omega) (by omega)).trans h2, HpDn.step (by omega) h3 (by omega) (by omega) (by omega) Hmin.out (by
                have := of_decide_eq_true Hlt.out
                rw [kk_at (by omega), kk_at (by omega)]
                exact this), fun k hk => ?_⟩
              unfold swp
              rw [List.getElem?_set_ne (by omega), List.getElem?_set_ne (by omega)]
              exact h4 k hk)
            clear hq5 ht5
            go_wp2
            go_roundw
            case rel => exact ⟨c, swp F i c, by go_num, by omega, HF5, HQ5, HT5⟩
            case measure => simp [intOf]; omega
      · have d2 : ¬ ((c : Int) + 1 < (m : Int)) := by omega
        have Hmin : Hid (∀ k, 0 < k → k < m → (k - 1) / 2 = i → kk F c ≤ kk F k) := Lib.hid (fun k k0 kn hk => by
          obtain rfl : k = c := by omega
          exact Nat.le_refl _)
        have cj := HQ.out.c0
        have mj := fun q => method_less q ⟨B, 0, none⟩ sv wr cj
        go_wp2_with fail
        refine Calls.mono (qless_any base B sv F c i wr HQ.out (by omega) (by omega)) ?_
        rintro e w4 ⟨rfl, hb4⟩
        have HQ4 := Lib.hid (HQ.out.below hb4)
        have HT4 := Lib.hid (HT.out.trans (Turns.of_below' (T := fun b => sv.ownBlock = some b) hb4))
        have c4 := HQ4.out.c0
        have m4 := fun q => method_swap q ⟨B, 0, none⟩ sv w4 c4
        clear hb4 mj cj
        obtain ⟨lt, hlt⟩ : ∃ lt, decide (F[c].2 < F[i].2) = lt := ⟨_, rfl⟩
        rw [hlt]
        have Hlt := Lib.hid hlt
        clear hlt
        cases lt with
        | false =>
          go_wp2
          go_ret
          obtain ⟨h1, h2, h3, h4⟩ := HF.out
          refine ⟨⟨_, rfl⟩, F, h2, ?_, h4, HQ4.out, HT4.out⟩
          refine h3.done (fun k k0 kn hk => ?_)
          have := of_decide_eq_false Hlt.out
          have h5 := Hmin.out k k0 kn hk
          rw [kk_at (by omega)] at h5 ⊢
          rw [kk_at (by omega)] at h5
          rw [kk_at (by omega)]
          omega
        | true =>
          go_wp2_with fail
          refine Calls.mono (qswap_any base B sv F i c w4 HQ4.out (by omega) (by omega) (by omega)) ?_
          rintro e w5 ⟨rfl, hq5, ht5⟩
          have HQ5 : Hid (Qu w5 base B sv (swp F i c)) := Lib.hid (by rw [swp_eq (by omega) (by omega)]; exact hq5)
          have HT5 := Lib.hid (HT4.out.trans ht5)
          have HF5 : Hid ((swp F i c).length = E.length ∧ (swp F i c).Perm E ∧ HpDn (kk (swp F i c)) m c ∧ ∀ k, m ≤ k → (swp F i c)[k]? = E[k]?) := Lib.hid (by
            obtain ⟨h1, h2, h3, h4⟩ := HF.out
            refine ⟨(swp_len F i c).trans h1, (swp_perm (by omega) (by omega)).trans h2, HpDn.step (by omega) h3 (by omega) (by omega) (by omega) Hmin.out (by
              have := of_decide_eq_true Hlt.out
              rw [kk_at (by omega), kk_at (by omega)]
              exact this), fun k hk => ?_⟩
            unfold swp
            rw [List.getElem?_set_ne (by omega), List.getElem?_set_ne (by omega)]
            exact h4 k hk)
          clear hq5 ht5
          go_wp2
          go_roundw
          case rel => exact ⟨c, swp F i c, by go_num, by omega, HF5, HQ5, HT5⟩
          case measure => simp [intOf]; omega
    · have d1 : ((m : Int) ≤ (c : Int)) := by omega
      go_wp2
      go_ret
      obtain ⟨h1, h2, h3, h4⟩ := HF.out
      exact ⟨⟨_, rfl⟩, F, h2, h3.done (fun k k0 kn hk => by omega), h4, HQ.out, HT.out⟩

end Go.Proofs.Ytajidlihepjegaa
