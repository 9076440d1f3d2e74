/- Several texts in one, each with its own head. -/
import Derived.Test.YtebfdoipogjpnaaGreatQd7
/- The library's heap over huff's queue: up, down, Push, Pop. -/
namespace Go.Proofs.YtebfdoipogjpnaaGreat
open Go.RowKit

theorem Qu.below {w w' : World} {base B : Nat} {sv : Value} {E : List (Nat × Nat)} (h : Qu w base B sv E) (hb : Below w.heap.size w w') : Qu w' base B sv E :=
  h.put (Turns.of_below' hb) ((Turns.of_below' (T := fun _ => False) hb).owns h.own (fun _ _ h => h)) (fun _ he => he)

set_option maxRecDepth 100000 in
set_option maxHeartbeats 1000000 in
theorem up_any (base B : Nat) (sv : Value) (E : List (Nat × Nat)) (j : Nat) (w : World) (h : Qu w base B sv E) (hj : j < E.length) (hu : HpUp (kk E) E.length j) (hlen : E.length ≤ 65536) :
    Calls Tryz.prog 231 #[.iface 290 (.pointer (some ⟨B, 0, none⟩)), .int .i64 (j : Int)] w fun e w' => e = .returned (.tuple #[]) ∧ ∃ E', E'.Perm E ∧ Hp (kk E') E'.length ∧ Qu w' base B sv E' ∧ Turns (fun b => sv.ownBlock = some b) w w' := by
  obtain ⟨n, hn⟩ : ∃ n, E.length = n := ⟨_, rfl⟩
  rw [hn] at hlen hj hu
  have H := Lib.hid h
  have Hu := Lib.hid hu
  have Hn := Lib.hid hn
  clear h hu hn
  go_enter Tryz.func231, Tryz.ntmps231
  go_wp2
  go_loopw [1] (fun jv wr => ∃ (k : Nat) (F : List (Nat × Nat)), jv = .int .i64 (k : Int) ∧ k < n ∧ Hid (F.length = n ∧ F.Perm E ∧ HpUp (kk F) n k) ∧ Hid (Qu wr base B sv F) ∧ Hid (Turns (fun b => sv.ownBlock = some b) w wr)) (fun jv _ => (intOf jv).toNat)
  case atStart => exact ⟨j, E, rfl, hj, Lib.hid ⟨Hn.out, List.Perm.refl _, Hu.out⟩, H, Lib.hid (Turns.refl _ _)⟩
  case round =>
    obtain ⟨k, F, rfl, hk, HF, HQ, HT⟩ := hrel
    have c0 := HQ.out.c0
    have m1 := fun q => method_less q ⟨B, 0, none⟩ sv wr c0
    by_cases h0 : k = 0
    · subst h0
      go_wp2
      go_end0
      obtain ⟨h1, h2, h3⟩ := HF.out
      exact ⟨rfl, F, h2, h1 ▸ h3.done (.inl rfl), HQ.out, HT.out⟩
    · obtain ⟨i, hi⟩ : ∃ i, (k - 1) / 2 = i := ⟨_, rfl⟩
      have hik : i < k := by omega
      have hi1 : ((k : Int) - 1).tdiv 2 = (i : Int) := by
        rw [show ((k : Int) - 1) = ((k - 1 : Nat) : Int) by omega]
        rw [← hi]; rfl
      have e1 : ((i : Int) == (k : Int)) = false := by simp; omega
      have hF := HF.out.1
      have Hi := Lib.hid hi
      clear hi
      go_wp2_with fail
      refine Calls.mono (qless_any base B sv F k i wr HQ.out (by omega) (by omega)) ?_
      rintro e w1 ⟨rfl, hb1⟩
      have HQ1 := Lib.hid (HQ.out.below hb1)
      have HT1 := Lib.hid (HT.out.trans (Turns.of_below' (T := fun b => sv.ownBlock = some b) hb1))
      have c1 := HQ1.out.c0
      have m2 := fun q => method_swap q ⟨B, 0, none⟩ sv w1 c1
      clear hb1 m1 c0
      obtain ⟨lt, hlt⟩ : ∃ lt, decide (F[k].2 < F[i].2) = lt := ⟨_, rfl⟩
      rw [hlt]
      have Hlt := Lib.hid hlt
      clear hlt
      cases lt with
      | false =>
        go_wp2
        go_end0
        obtain ⟨h1, h2, h3⟩ := HF.out
        refine ⟨rfl, F, h2, ?_, HQ1.out, HT1.out⟩
        rw [h1]
        refine h3.done (.inr ?_)
        have := of_decide_eq_false Hlt.out
        rw [Hi.out, kk_at (by omega), kk_at (by omega)]
        omega
      | true =>
        go_wp2_with fail
        refine Calls.mono (qswap_any base B sv F i k w1 HQ1.out (by omega) (by omega) (by omega)) ?_
        rintro e w2 ⟨rfl, hq2, ht2⟩
        have HQ2 : Hid (Qu w2 base B sv (swp F i k)) := Lib.hid (by rw [swp_eq (by omega) (by omega)]; exact hq2)
        have HT2 := Lib.hid (HT1.out.trans ht2)
        have HF2 : Hid ((swp F i k).length = n ∧ (swp F i k).Perm E ∧ HpUp (kk (swp F i k)) n i) := Lib.hid (by
          obtain ⟨h1, h2, h3⟩ := HF.out
          have h4 := HpUp.step h1.symm h3 (by omega) hk (by
            have := of_decide_eq_true Hlt.out
            rw [Hi.out, kk_at (by omega), kk_at (by omega)]
            exact this)
          rw [Hi.out] at h4
          exact ⟨(swp_len F i k).trans h1, (swp_perm (by omega) (by omega)).trans h2, h4⟩)
        clear hq2 ht2
        go_wp2
        go_roundw
        case rel => exact ⟨i, swp F i k, rfl, by omega, HF2, HQ2, HT2⟩
        case measure => simp [intOf]; omega

set_option maxRecDepth 100000 in
set_option maxHeartbeats 2000000 in
theorem down_any (base B : Nat) (sv : Value) (E : List (Nat × Nat)) (m : Nat) (w : World) (h : Qu w base B sv E) (hm : m < E.length) (hd : HpDn (kk E) m 0) (hlen : E.length ≤ 65536) :
    Calls Tryz.prog 232 #[.iface 290 (.pointer (some ⟨B, 0, none⟩)), .int .i64 0, .int .i64 (m : Int)] w fun e w' => (∃ v, e = .returned v) ∧ ∃ E', E'.Perm E ∧ Hp (kk E') m ∧ (∀ k, m ≤ k → E'[k]? = E[k]?) ∧ Qu w' base B sv E' ∧ Turns (fun b => sv.ownBlock = some b) w w' := by
  have H := Lib.hid h
  have Hd := Lib.hid hd
  clear h hd
  go_enter Tryz.func232, Tryz.ntmps232
  go_wp2
  go_loopw [7] (fun iv wr => ∃ (i : Nat) (F : List (Nat × Nat)), iv = .int .i64 (i : Int) ∧ i ≤ m ∧ Hid (F.length = E.length ∧ F.Perm E ∧ HpDn (kk F) m i ∧ ∀ k, m ≤ k → F[k]? = E[k]?) ∧ Hid (Qu wr base B sv F) ∧ Hid (Turns (fun b => sv.ownBlock = some b) w wr)) (fun iv _ => m - (intOf iv).toNat)
  case atStart => exact ⟨0, E, rfl, Nat.zero_le _, Lib.hid ⟨rfl, List.Perm.refl _, Hd.out, fun _ _ => rfl⟩, H, Lib.hid (Turns.refl _ _)⟩
  case round =>
    obtain ⟨i, F, rfl, hi, HF, HQ, HT⟩ := hrel
    have hF := HF.out.1
    obtain ⟨c, hc⟩ : ∃ c, 2 * i + 1 = c := ⟨_, rfl⟩
    have hca : 2 * (i : Int) + 1 = (c : Int) := by omega
    have hn0 : ¬ ((c : Int) < 0) := by omega
    by_cases h1 : c < m
    · have d1 : ¬ ((m : Int) ≤ (c : Int)) := by omega
      by_cases h2 : c + 1 < m
      · obtain ⟨d, hd⟩ : ∃ d, c + 1 = d := ⟨_, rfl⟩
        have hcd : (c : Int) + 1 = (d : Int) := by omega
        have d2 : (d : Int) < (m : Int) := by omega
        have c0 := HQ.out.c0
        have m1 := fun q => method_less q ⟨B, 0, none⟩ sv wr c0
        go_wp2_with fail
        refine Calls.mono (qless_any base B sv F d c wr HQ.out (by omega) (by omega)) ?_
        rintro e w3 ⟨rfl, hb3⟩
        have HQ3 := Lib.hid (HQ.out.below hb3)
        have HT3 := Lib.hid (HT.out.trans (Turns.of_below' (T := fun b => sv.ownBlock = some b) hb3))
        clear hb3 m1 c0
        obtain ⟨lc, hlc⟩ : ∃ lc, decide (F[d].2 < F[c].2) = lc := ⟨_, rfl⟩
        rw [hlc]
        have Hlc := Lib.hid hlc
        clear hlc
        cases lc with
        | true =>
          obtain ⟨j, hj⟩ : ∃ j, d = j := ⟨_, rfl⟩
          have Hmin : Hid (∀ k, 0 < k → k < m → (k - 1) / 2 = i → kk F j ≤ kk F k) := Lib.hid (fun k k0 kn hk => by
            have h3 := of_decide_eq_true Hlc.out
            rw [kk_at (by omega), kk_at (by omega)]
            by_cases e : k = c
            · subst e; subst hj; omega
            · obtain rfl : k = j := by omega
              exact Nat.le_refl _)
          subst hj
          have cj := HQ3.out.c0
          have mj := fun q => method_less q ⟨B, 0, none⟩ sv w3 cj
          go_wp2_with fail
          refine Calls.mono (qless_any base B sv F d i w3 HQ3.out (by omega) (by omega)) ?_
          rintro e w4 ⟨rfl, hb4⟩
          have HQ4 := Lib.hid (HQ3.out.below hb4)
          have HT4 := Lib.hid (HT3.out.trans (Turns.of_below' (T := fun b => sv.ownBlock = some b) hb4))
          have c4 := HQ4.out.c0
          have m4 := fun q => method_swap q ⟨B, 0, none⟩ sv w4 c4
          clear hb4 mj cj
          obtain ⟨lt, hlt⟩ : ∃ lt, decide (F[d].2 < F[i].2) = lt := ⟨_, rfl⟩
          rw [hlt]
          have Hlt := Lib.hid hlt
          clear hlt
          cases lt with
          | false =>
            go_wp2
            go_ret
            obtain ⟨h1, h2, h3, h4⟩ := HF.out
            refine ⟨⟨_, rfl⟩, F, h2, ?_, h4, HQ4.out, HT4.out⟩
            refine h3.done (fun k k0 kn hk => ?_)
            have := of_decide_eq_false Hlt.out
            have h5 := Hmin.out k k0 kn hk
            rw [kk_at (by omega)] at h5 ⊢
            rw [kk_at (by omega)] at h5
            rw [kk_at (by omega)]
            omega
          | true =>
            go_wp2_with fail
            refine Calls.mono (qswap_any base B sv F i d w4 HQ4.out (by omega) (by omega) (by omega)) ?_
            rintro e w5 ⟨rfl, hq5, ht5⟩
            have HQ5 : Hid (Qu w5 base B sv (swp F i d)) := Lib.hid (by rw [swp_eq (by omega) (by omega)]; exact hq5)
            have HT5 := Lib.hid (HT4.out.trans ht5)
            have HF5 : Hid ((swp F i d).length = E.length ∧ (swp F i d).Perm E ∧ HpDn (kk (swp F i d)) m d ∧ ∀ k, m ≤ k → (swp F i d)[k]? = E[k]?) := Lib.hid (by
              obtain ⟨h1, h2, h3, h4⟩ := HF.out
              refine ⟨(swp_len F i d).trans h1, (swp_perm (by omega) (by omega)).trans h2, HpDn.step (by omega) h3 (by omega) (by omega) (by omega) Hmin.out (by
                have := of_decide_eq_true Hlt.out
                rw [kk_at (by omega), kk_at (by omega)]
                exact this), fun k hk => ?_⟩
              unfold swp
              rw [List.getElem?_set_ne (by omega), List.getElem?_set_ne (by omega)]
              exact h4 k hk)
            clear hq5 ht5
            go_wp2
            go_roundw
            case rel => exact ⟨d, swp F i d, by go_num, by omega, HF5, HQ5, HT5⟩
            case measure => simp [intOf]; omega
        | false =>
          obtain ⟨j, hj⟩ : ∃ j, c = j := ⟨_, rfl⟩
          have Hmin : Hid (∀ k, 0 < k → k < m → (k - 1) / 2 = i → kk F j ≤ kk F k) := Lib.hid (fun k k0 kn hk => by
            have h3 := of_decide_eq_false Hlc.out
            rw [kk_at (by omega), kk_at (by omega)]
            by_cases e : k = c
            · subst e; subst hj; exact Nat.le_refl _
            · obtain rfl : k = d := by omega
              subst hj
              omega)
          subst hj
          have cj := HQ3.out.c0
          have mj := fun q => method_less q ⟨B, 0, none⟩ sv w3 cj
          go_wp2_with fail
          refine Calls.mono (qless_any base B sv F c i w3 HQ3.out (by omega) (by omega)) ?_
          rintro e w4 ⟨rfl, hb4⟩
          have HQ4 := Lib.hid (HQ3.out.below hb4)
          have HT4 := Lib.hid (HT3.out.trans (Turns.of_below' (T := fun b => sv.ownBlock = some b) hb4))
          have c4 := HQ4.out.c0
          have m4 := fun q => method_swap q ⟨B, 0, none⟩ sv w4 c4
          clear hb4 mj cj
          obtain ⟨lt, hlt⟩ : ∃ lt, decide (F[c].2 < F[i].2) = lt := ⟨_, rfl⟩
          rw [hlt]
          have Hlt := Lib.hid hlt
          clear hlt
          cases lt with
          | false =>
            go_wp2
            go_ret
            obtain ⟨h1, h2, h3, h4⟩ := HF.out
            refine ⟨⟨_, rfl⟩, F, h2, ?_, h4, HQ4.out, HT4.out⟩
            refine h3.done (fun k k0 kn hk => ?_)
            have := of_decide_eq_false Hlt.out
            have h5 := Hmin.out k k0 kn hk
            rw [kk_at (by omega)] at h5 ⊢
            rw [kk_at (by omega)] at h5
            rw [kk_at (by omega)]
            omega
          | true =>
            go_wp2_with fail
            refine Calls.mono (qswap_any base B sv F i c w4 HQ4.out (by omega) (by omega) (by omega)) ?_
            rintro e w5 ⟨rfl, hq5, ht5⟩
            have HQ5 : Hid (Qu w5 base B sv (swp F i c)) := Lib.hid (by rw [swp_eq (by omega) (by omega)]; exact hq5)
            have HT5 := Lib.hid (HT4.out.trans ht5)
            have HF5 : Hid ((swp F i c).length = E.length ∧ (swp F i c).Perm E ∧ HpDn (kk (swp F i c)) m c ∧ ∀ k, m ≤ k → (swp F i c)[k]? = E[k]?) := Lib.hid (by
              obtain ⟨h1, h2, h3, h4⟩ := HF.out
              refine ⟨(swp_len F i c).trans h1, (swp_perm (by omega) (by omega)).trans h2, HpDn.step (by omega) h3 (by omega) (by omega) (by omega) Hmin.out (by
                have := of_decide_eq_true Hlt.out
                rw [kk_at (by omega), kk_at (by omega)]
                exact this), fun k hk => ?_⟩
              unfold swp
              rw [List.getElem?_set_ne (by omega), List.getElem?_set_ne (by omega)]
              exact h4 k hk)
            clear hq5 ht5
            go_wp2
            go_roundw
            case rel => exact ⟨c, swp F i c, by go_num, by omega, HF5, HQ5, HT5⟩
            case measure => simp [intOf]; omega
      · have d2 : ¬ ((c : Int) + 1 < (m : Int)) := by omega
        have Hmin : Hid (∀ k, 0 < k → k < m → (k - 1) / 2 = i → kk F c ≤ kk F k) := Lib.hid (fun k k0 kn hk => by
          obtain rfl : k = c := by omega
          exact Nat.le_refl _)
        have cj := HQ.out.c0
        have mj := fun q => method_less q ⟨B, 0, none⟩ sv wr cj
        go_wp2_with fail
        refine Calls.mono (qless_any base B sv F c i wr HQ.out (by omega) (by omega)) ?_
        rintro e w4 ⟨rfl, hb4⟩
        have HQ4 := Lib.hid (HQ.out.below hb4)
        have HT4 := Lib.hid (HT.out.trans (Turns.of_below' (T := fun b => sv.ownBlock = some b) hb4))
        have c4 := HQ4.out.c0
        have m4 := fun q => method_swap q ⟨B, 0, none⟩ sv w4 c4
        clear hb4 mj cj
        obtain ⟨lt, hlt⟩ : ∃ lt, decide (F[c].2 < F[i].2) = lt := ⟨_, rfl⟩
        rw [hlt]
        have Hlt := Lib.hid hlt
        clear hlt
        cases lt with
        | false =>
          go_wp2
          go_ret
          obtain ⟨h1, h2, h3, h4⟩ := HF.out
          refine ⟨⟨_, rfl⟩, F, h2, ?_, h4, HQ4.out, HT4.out⟩
          refine h3.done (fun k k0 kn hk => ?_)
          have := of_decide_eq_false Hlt.out
          have h5 := Hmin.out k k0 kn hk
          rw [kk_at (by omega)] at h5 ⊢
          rw [kk_at (by omega)] at h5
          rw [kk_at (by omega)]
          omega
        | true =>
          go_wp2_with fail
          refine Calls.mono (qswap_any base B sv F i c w4 HQ4.out (by omega) (by omega) (by omega)) ?_
          rintro e w5 ⟨rfl, hq5, ht5⟩
          have HQ5 : Hid (Qu w5 base B sv (swp F i c)) := Lib.hid (by rw [swp_eq (by omega) (by omega)]; exact hq5)
          have HT5 := Lib.hid (HT4.out.trans ht5)
          have HF5 : Hid ((swp F i c).length = E.length ∧ (swp F i c).Perm E ∧ HpDn (kk (swp F i c)) m c ∧ ∀ k, m ≤ k → (swp F i c)[k]? = E[k]?) := Lib.hid (by
            obtain ⟨h1, h2, h3, h4⟩ := HF.out
            refine ⟨(swp_len F i c).trans h1, (swp_perm (by omega) (by omega)).trans h2, HpDn.step (by omega) h3 (by omega) (by omega) (by omega) Hmin.out (by
              have := of_decide_eq_true Hlt.out
              rw [kk_at (by omega), kk_at (by omega)]
              exact this), fun k hk => ?_⟩
            unfold swp
            rw [List.getElem?_set_ne (by omega), List.getElem?_set_ne (by omega)]
            exact h4 k hk)
          clear hq5 ht5
          go_wp2
          go_roundw
          case rel => exact ⟨c, swp F i c, by go_num, by omega, HF5, HQ5, HT5⟩
          case measure => simp [intOf]; omega
    · have d1 : ((m : Int) ≤ (c : Int)) := by omega
      go_wp2
      go_ret
      obtain ⟨h1, h2, h3, h4⟩ := HF.out
      exact ⟨⟨_, rfl⟩, F, h2, h3.done (fun k k0 kn hk => by omega), h4, HQ.out, HT.out⟩

end Go.Proofs.YtebfdoipogjpnaaGreat

/- The library's heap over huff's queue: Push, Pop; put, take. -/
namespace Go.Proofs.YtebfdoipogjpnaaGreat
open Go.RowKit

/-- A queue that is a heap, of these things in some order. -/
def Heap (w : World) (base B : Nat) (sv : Value) (E : List (Nat × Nat)) : Prop := ∃ F, F.Perm E ∧ Hp (kk F) F.length ∧ Qu w base B sv F
def HeapTo (base B : Nat) (sv : Value) (E : List (Nat × Nat)) (w w' : World) : Prop :=
  ∃ sv', Heap w' base B sv' E ∧ Turns (fun b => b = B ∨ sv.ownBlock = some b) w w' ∧ ∀ k, sv'.ownBlock = some k → sv.ownBlock = some k ∨ w.heap.size ≤ k

theorem HeapTo.step {w w1 w2 : World} {base B : Nat} {sv sv1 : Value} {E : List (Nat × Nat)} (h2 : Turns (fun b => b = B ∨ sv.ownBlock = some b) w w1) (h3 : ∀ k, sv1.ownBlock = some k → sv.ownBlock = some k ∨ w.heap.size ≤ k) (k : HeapTo base B sv1 E w1 w2) : HeapTo base B sv E w w2 := by
  obtain ⟨sv2, k1, k2, k3⟩ := k
  refine ⟨sv2, k1, h2.trans' k2 (fun i hi h => ?_), fun q hq => ?_⟩
  · rcases h with h | h
    · exact .inl h
    · rcases h3 i h with h | h
      · exact .inr h
      · omega
  · rcases k3 q hq with h | h
    · rcases h3 q h with h | h
      · exact .inl h
      · exact .inr h
    · exact .inr (Nat.le_trans h2.size h)

theorem Heap.below {w w' : World} {base B : Nat} {sv : Value} {E : List (Nat × Nat)} (h : Heap w base B sv E) (hb : Below w.heap.size w w') : Heap w' base B sv E := by
  obtain ⟨F, h1, h2, h3⟩ := h
  exact ⟨F, h1, h2, h3.below hb⟩

set_option maxHeartbeats 1000000 in
theorem hpush_any (base B : Nat) (sv : Value) (E : List (Nat × Nat)) (b c : Nat) (w : World) (h : Heap w base B sv E) (hc : w.cell? ⟨b, 0, none⟩ = some (.int .i64 (c : Int))) (hbB : b ≠ B) (hbs : sv.ownBlock ≠ some b) (hlen : E.length < 65536) (hbase : base ≤ w.heap.size) :
    Calls Tryz.prog 228 #[.iface 290 (.pointer (some ⟨B, 0, none⟩)), .iface 216 (ptrV b)] w fun e w' => e = .returned (.tuple #[]) ∧ HeapTo base B sv (E ++ [(b, c)]) w w' := by
  obtain ⟨F, h1, h2, h3⟩ := h
  obtain ⟨n, hn⟩ : ∃ n, F.length = n := ⟨_, rfl⟩
  have hl : n < 65536 := by rw [← hn, h1.length_eq]; exact hlen
  have m0 := fun q w => method_push q ⟨B, 0, none⟩ w
  have H1 := Lib.hid (And.intro h1 h2)
  have H3 := Lib.hid h3
  have Hn := Lib.hid hn
  clear h1 h2 h3 hn hlen
  go_enter Tryz.func228, Tryz.ntmps228
  go_wp2_with fail
  refine Calls.mono (qpush_any base B sv F b c w H3.out hc hbB hbs (by have := Hn.out; omega) hbase) ?_
  rintro e w1 ⟨rfl, sv1, hq1, ht1, hs1⟩
  have HQ := Lib.hid hq1
  have HT := Lib.hid (And.intro ht1 hs1)
  have c1 := hq1.c0
  obtain ⟨p1, cp1, rfl⟩ := owns_slice hq1.own
  have m1 := fun q => method_len q ⟨B, 0, none⟩ _ w1 c1
  have hl1 : (F ++ [(b, c)]).length = n + 1 := by simp [Hn.out]
  rw [hl1] at m1 c1
  have Hl1 := Lib.hid hl1
  clear hq1 ht1 hs1 hl1
  go_wp2_with fail
  refine Calls.mono (qlen_any _ _ _ _) ?_
  rintro e w2 ⟨rfl, rfl⟩
  go_wp2_with fail
  refine Calls.mono (up_any base B _ (F ++ [(b, c)]) n w2 HQ.out (by have := Hl1.out; omega) (by
    have := HpUp.push (b, c) H1.out.2
    rw [Hn.out] at this
    rw [Hl1.out]; exact this) (by have := Hl1.out; omega)) ?_
  rintro e w3 ⟨rfl, G, g1, g2, g3, g4⟩
  have HG := Lib.hid (And.intro g1 (And.intro g2 (And.intro g3 g4)))
  clear g1 g2 g3 g4
  go_wp2
  go_end0
  obtain ⟨g1, g2, g3, g4⟩ := HG.out
  obtain ⟨ht, hs⟩ := HT.out
  refine ⟨rfl, HeapTo.step ht hs ⟨_, ⟨G, g1.trans (H1.out.1.append_right _), g2, g3⟩, g4.mono (fun _ _ h => .inr h), fun _ h => .inl h⟩⟩

theorem kk_take (D : List (Nat × Nat)) (n k : Nat) (h : k < n) : kk (D.take n) k = kk D k := by
  unfold kk
  rw [List.getD_eq_getElem?_getD, List.getD_eq_getElem?_getD, List.getElem?_take_of_lt h]

set_option maxHeartbeats 2000000 in
theorem hpop_any (base B : Nat) (sv : Value) (E : List (Nat × Nat)) (w : World) (h : Heap w base B sv E) (h0 : 0 < E.length) (hlen : E.length ≤ 65536) :
    Calls Tryz.prog 229 #[.iface 290 (.pointer (some ⟨B, 0, none⟩))] w fun e w' => ∃ x E', e = .returned (.iface 216 (ptrV x.1)) ∧ (x :: E').Perm E ∧ (∀ y ∈ E', x.2 ≤ y.2) ∧ HeapTo base B sv E' w w' := by
  obtain ⟨F, h1, h2, h3⟩ := h
  obtain ⟨n, hn⟩ : ∃ n, F.length = n + 1 := ⟨F.length - 1, by have := h1.length_eq; omega⟩
  have hl : n < 65536 := by have := h1.length_eq; omega
  have c0 := h3.c0
  obtain ⟨p0, cp0, hp0⟩ := owns_slice h3.own
  rw [hn] at hp0
  subst hp0
  have H3 := Lib.hid h3
  have H1 := Lib.hid (And.intro h1 h2)
  have Hn := Lib.hid hn
  have hF0 : 0 < F.length := by omega
  have m0 := fun q => method_len q ⟨B, 0, none⟩ _ w c0
  have ms := fun q => method_swap q ⟨B, 0, none⟩ _ w c0
  have mp := fun q w => method_pop q ⟨B, 0, none⟩ w
  clear h1 h2 h3 hn h0 hlen
  go_enter Tryz.func229, Tryz.ntmps229
  go_wp2_with fail
  refine Calls.mono (qlen_any _ _ _ _) ?_
  rintro e w1 ⟨rfl, rfl⟩
  go_wp2_with fail
  have hsw : Calls Tryz.prog 263 #[.slice p0 (n + 1) cp0, .int .i64 0, .int .i64 (n : Int)] w1 fun e w' => e = .returned (.tuple #[]) ∧ Qu w' base B (.slice p0 (n + 1) cp0) (swp F 0 n) ∧ Turns (fun b => (Value.slice p0 (n + 1) cp0).ownBlock = some b) w1 w' := by
    have hF := Hn.out
    rcases Nat.eq_zero_or_pos n with hz | hz
    · subst hz
      rw [swp_self (by omega)]
      exact qswap_same base B _ F 0 w1 H3.out (by omega)
    · rw [swp_eq (by omega) (by omega)]
      exact qswap_any base B _ F 0 n w1 H3.out (by omega) (by omega) (by omega)
  refine Calls.mono hsw ?_
  rintro e w2 ⟨rfl, hq2, ht2⟩
  have HQ2 := Lib.hid hq2
  have HT2 := Lib.hid ht2
  clear hq2 ht2 hsw m0 ms c0
  go_wp2_with fail
  refine Calls.mono (down_any base B _ (swp F 0 n) n w2 HQ2.out (by rw [swp_len, Hn.out]; omega) (HpDn.pop Hn.out (by rw [← Hn.out]; exact H1.out.2)) (by rw [swp_len, Hn.out]; omega)) ?_
  rintro e w3 ⟨⟨v3, rfl⟩, D, d1, d2, d3, hq3, ht3⟩
  have hDl : D.length = n + 1 := by rw [d1.length_eq, swp_len, Hn.out]
  have hx : D = D.take n ++ [F[0]'hF0] := by
    have e1 : D[n]? = some (F[0]'hF0) := by
      rw [d3 n (Nat.le_refl _), swp_eq (by rw [Hn.out]; omega) (by rw [Hn.out]; omega), List.getElem?_set_self (by simp [Hn.out])]
    obtain ⟨hlt, e2⟩ := List.getElem?_eq_some_iff.1 e1
    rw [← e2]
    refine List.ext_getElem? (fun k => ?_)
    rcases Nat.lt_or_ge k n with hk | hk
    · rw [List.getElem?_append_left (by simp; omega), List.getElem?_take_of_lt hk]
    · rw [List.getElem?_append_right (by simp; omega)]
      rcases Nat.lt_or_ge n k with hk2 | hk2
      · rw [List.getElem?_eq_none (by omega), List.getElem?_eq_none (by simp; omega)]
      · obtain rfl : k = n := by omega
        simp [hDl]
  have HD := Lib.hid (And.intro d1 (And.intro d2 hDl))
  have Hx := Lib.hid hx
  obtain ⟨x, hxx⟩ : ∃ x, F[0]'hF0 = x := ⟨_, rfl⟩
  rw [hxx] at hx
  have Hxx := Lib.hid hxx
  have HQ3 := Lib.hid (show Qu w3 base B (.slice p0 (n + 1) cp0) (D.take n ++ [(x.1, x.2)]) from hx ▸ hq3)
  have HT3 := Lib.hid (HT2.out.trans ht3)
  clear d1 d2 d3 hq3 ht3 hDl hx hxx
  go_wp2_with fail
  refine Calls.mono (qpop_any base B _ (D.take n) x.1 x.2 w3 HQ3.out (by simp; omega)) ?_
  rintro e w4 ⟨rfl, sv4, hq4, ht4, hs4⟩
  have HQ4 := Lib.hid (And.intro hq4 (And.intro ht4 hs4))
  clear hq4 ht4 hs4
  go_wp2
  go_ret
  obtain ⟨hq4, ht4, hs4⟩ := HQ4.out
  obtain ⟨d1, d2, d3⟩ := HD.out
  have hperm : (x :: D.take n).Perm F := by
    have e1 : (D.take n ++ [x]).Perm F := by
      have := d1.trans (swp_perm (E := F) (i := 0) (j := n) (by rw [Hn.out]; omega) (by rw [Hn.out]; omega))
      rw [Hx.out, Hxx.out] at this
      simpa using this
    exact (List.perm_append_singleton x _).symm.trans e1
  refine ⟨x, D.take n, rfl, hperm.trans H1.out.1, fun y hy => ?_, sv4, ⟨D.take n, List.Perm.refl _, ?_, hq4⟩, ?_, ?_⟩
  · have hy' : y ∈ F := hperm.mem_iff.1 (List.mem_cons_of_mem _ hy)
    obtain ⟨k, hk, rfl⟩ := List.getElem_of_mem hy'
    have := H1.out.2.least k hk
    rw [kk_at hk, kk_at (by omega), Hxx.out] at this
    exact this
  · have e1 : (D.take n).length = n := by rw [List.length_take, d3]; omega
    rw [e1]
    exact d2.congr (fun k hk => kk_take D n k hk)
  · exact (HT3.out.mono (T' := fun b => b = B ∨ (Value.slice p0 (n + 1) cp0).ownBlock = some b) (fun _ _ h => .inr h)).trans ht4
  · intro k hk
    rcases hs4 k hk with h | h
    · exact .inl h
    · exact .inr (Nat.le_trans HT3.out.size h)

end Go.Proofs.YtebfdoipogjpnaaGreat

/- huff's queue: put, take. -/
namespace Go.Proofs.YtebfdoipogjpnaaGreat
open Go.RowKit

/-- Blocks as cells: pointers to them. -/
def encP (b : Nat) : List Value := [ptrV b]
theorem encP_len (b : Nat) : (encP b).length = 1 := rfl
theorem flatP : ∀ l : List Nat, l.flatMap encP = l.map ptrV
  | [] => rfl
  | b :: r => by rw [List.flatMap_cons, flatP r]; rfl

theorem RowAt.ptr {W : World} {p : Option Addr} {xs : List Nat} (h : RowAt encP 1 W p xs) {k : Nat} (hk : k < xs.length) : ∃ b off, p = some ⟨b, off, none⟩ ∧ W.cell? ⟨b, off + k, none⟩ = some (ptrV xs[k]) := by
  rcases h with ⟨-, rfl⟩ | ⟨b, off, rfl, -, h⟩
  · simp at hk
  · refine ⟨b, off, rfl, ?_⟩
    have := h k xs[k] (List.getElem?_eq_getElem hk) 0 _ rfl
    simpa using this

theorem HeapTo.blk {base B : Nat} {sv : Value} {E : List (Nat × Nat)} {w w' : World} (h : HeapTo base B sv E w w') {x : Nat} (hx : x < w.heap.size) (hB : x ≠ B) (hs : sv.ownBlock ≠ some x) : w'.heap[x]? = w.heap[x]? := by
  obtain ⟨sv', -, ht, -⟩ := h
  exact ht.block x hx (fun e => by
    rcases e with e | e
    · exact hB e
    · exact hs e)

set_option maxRecDepth 100000 in
set_option maxHeartbeats 2000000 in
theorem put_any (base B : Nat) (sv : Value) (E l : List (Nat × Nat)) (v : Value) (w : World) (h : Heap w base B sv E) (hv : Row encP 1 w v (l.map Prod.fst)) (hvb : ∀ k, v.ownBlock = some k → k ≠ B ∧ sv.ownBlock ≠ some k)
    (hl : ∀ e ∈ l, e.1 ≠ B ∧ sv.ownBlock ≠ some e.1 ∧ w.cell? ⟨e.1, 0, none⟩ = some (.int .i64 (e.2 : Int))) (hlen : E.length + l.length ≤ 65536) (hbase : base ≤ w.heap.size) :
    Calls Tryz.prog 218 #[.pointer (some ⟨B, 0, none⟩), v] w fun e w' => e = .returned (.tuple #[]) ∧ HeapTo base B sv (E ++ l) w w' := by
  obtain ⟨p, c, rfl, h1, h2, hrow⟩ := hv
  rw [List.length_map] at h1 hvb ⊢
  have H := Lib.hid h
  have Hrow := Lib.hid hrow
  have Hvb := Lib.hid hvb
  have Hl := Lib.hid hl
  clear h hrow hvb hl h2
  go_enter Tryz.func218, Tryz.ntmps218
  go_wp2
  go_loopw [8] (fun kv wr => ∃ (k : Nat), kv = .int .i64 (k : Int) ∧ k ≤ l.length ∧ Hid (HeapTo base B sv (E ++ l.take k) w wr)) (fun kv _ => l.length - (intOf kv).toNat)
  case atStart => exact ⟨0, rfl, Nat.zero_le _, Lib.hid ⟨sv, by simpa using H.out, Turns.refl _ _, fun _ h => .inl h⟩⟩
  case round =>
    obtain ⟨k, rfl, hk, Hto⟩ := hrel
    by_cases hlt : k < l.length
    · obtain ⟨g, off, rfl, hcell⟩ := Hrow.out.ptr (k := k) (by simpa using hlt)
      obtain ⟨sv1, hp1, ht1, hs1⟩ := Hto.out
      rw [List.getElem_map] at hcell
      obtain ⟨hb1, hb2, hb3⟩ := Hl.out l[k] (List.getElem_mem hlt)
      obtain ⟨hg1, hg2⟩ := Hvb.out g rfl
      have hx : wr.cell? ⟨g, off + k, none⟩ = some (ptrV l[k].1) := ht1.cell hcell (fun e => by
        rcases e with e | e
        · exact hg1 e
        · exact hg2 e)
      have Hkey : Hid (wr.cell? ⟨l[k].1, 0, none⟩ = some (.int .i64 (l[k].2 : Int))) := Lib.hid (ht1.cell hb3 (fun e => by
        rcases e with e | e
        · exact hb1 e
        · exact hb2 e))
      have Hap : Hid (l[k].1 ≠ B ∧ sv1.ownBlock ≠ some l[k].1) := Lib.hid ⟨hb1, fun e => by
        have := World.block_lt_of_cell? _ _ hb3
        simp only at this
        rcases hs1 _ e with h | h
        · exact hb2 h
        · omega⟩
      have Htk : Hid (E ++ l.take (k + 1) = E ++ l.take k ++ [(l[k].1, l[k].2)]) := Lib.hid (by
        rw [List.take_succ_eq_append_getElem hlt, List.append_assoc])
      have hlk : (l.take k).length = k := by rw [List.length_take]; omega
      have Hp1 := Lib.hid hp1
      have Ht1 := Lib.hid (And.intro ht1 hs1)
      obtain ⟨b, hb⟩ : ∃ b, l[k].1 = b := ⟨_, rfl⟩
      obtain ⟨c0, hc0⟩ : ∃ c, l[k].2 = c := ⟨_, rfl⟩
      rw [hb] at hx Hkey Hap Htk
      rw [hc0] at Hkey Htk
      unfold ptrV at hx
      have Hlk := Lib.hid hlk
      have k0 : (0 : Int) ≤ (k : Int) := by omega
      have k1 : (k : Int) < (l.length : Int) := by omega
      have hbw := Nat.le_trans hbase ht1.size
      clear hcell hb1 hb2 hb3 hg1 hg2 hp1 ht1 hs1 hlk hb hc0
      go_wp2_with fail
      refine Calls.mono (hpush_any base B sv1 (E ++ l.take k) b c0 wr Hp1.out Hkey.out Hap.out.1 Hap.out.2 (by rw [List.length_append, Hlk.out]; omega) hbw) ?_
      rintro e w1 ⟨rfl, hto1⟩
      have Hto1 : Hid (HeapTo base B sv (E ++ l.take (k + 1)) w w1) := Lib.hid (by
        rw [Htk.out]
        exact HeapTo.step Ht1.out.1 Ht1.out.2 hto1)
      clear hto1
      go_wp2
      go_roundw
      case rel => exact ⟨k + 1, by go_num, by omega, Hto1⟩
      case measure => simp [intOf]; omega
    · obtain rfl : k = l.length := by omega
      go_wp2
      go_end0
      refine ⟨rfl, ?_⟩
      have := Hto.out
      rw [List.take_length] at this
      exact this

theorem take_any (base B : Nat) (sv : Value) (E : List (Nat × Nat)) (w : World) (h : Heap w base B sv E) (h0 : 0 < E.length) (hlen : E.length ≤ 65536) :
    Calls Tryz.prog 220 #[.pointer (some ⟨B, 0, none⟩)] w fun e w' => ∃ x E', e = .returned (ptrV x.1) ∧ (x :: E').Perm E ∧ (∀ y ∈ E', x.2 ≤ y.2) ∧ HeapTo base B sv E' w w' := by
  have H := Lib.hid h
  clear h
  have hta := assert_parcel
  go_enter Tryz.func220, Tryz.ntmps220
  go_wp2_with fail
  refine Calls.mono (hpop_any base B sv E w H.out h0 hlen) ?_
  rintro e w1 ⟨x, E', rfl, h1, h2, h3⟩
  have H1 := Lib.hid (And.intro h1 (And.intro h2 h3))
  clear h1 h2 h3
  go_wp2
  go_ret
  exact ⟨x, E', rfl, H1.out⟩

end Go.Proofs.YtebfdoipogjpnaaGreat
