/- Several texts in one, each with its own head. -/
import Derived.Lib.Hide
import Derived.Test.YtdcmalbbijchiaaZq6
/- Heaps as plain lists: a place that is too low or too high is sifted. Nothing here speaks of one program. -/
namespace Go.Proofs.Ytdcmalbbijchiaa

/-- The key at a place. -/
def kk (E : List (Nat × Nat)) (k : Nat) : Nat := (E.getD k (0, 0)).2
theorem kk_at {E : List (Nat × Nat)} {k : Nat} (h : k < E.length) : kk E k = E[k].2 := by
  unfold kk; rw [List.getD_eq_getElem?_getD, List.getElem?_eq_getElem h]; rfl

def swp (E : List (Nat × Nat)) (i j : Nat) : List (Nat × Nat) := (E.set i (E.getD j (0, 0))).set j (E.getD i (0, 0))
theorem swp_eq {E : List (Nat × Nat)} {i j : Nat} (hi : i < E.length) (hj : j < E.length) : swp E i j = (E.set i E[j]).set j E[i] := by
  unfold swp; simp [List.getD_eq_getElem?_getD, hi, hj]
theorem swp_len (E : List (Nat × Nat)) (i j : Nat) : (swp E i j).length = E.length := by simp [swp]
theorem swp_perm {E : List (Nat × Nat)} {i j : Nat} (hi : i < E.length) (hj : j < E.length) : (swp E i j).Perm E := by
  rw [swp_eq hi hj]; exact List.set_set_perm hi hj
theorem swp_self {E : List (Nat × Nat)} {i : Nat} (hi : i < E.length) : swp E i i = E := by
  rw [swp_eq hi hi, List.set_set, List.set_getElem_self]
theorem swp_kk {E : List (Nat × Nat)} {i j : Nat} (hi : i < E.length) (hj : j < E.length) (k : Nat) : kk (swp E i j) k = if k = j then kk E i else if k = i then kk E j else kk E k := by
  unfold kk swp
  simp only [List.getD_eq_getElem?_getD, List.getElem?_set, List.length_set]
  by_cases h1 : j = k
  · subst h1; simp [hj]
  · by_cases h2 : i = k
    · subst h2; simp [h1, hi, Ne.symm h1]
    · simp [h1, h2, Ne.symm h1, Ne.symm h2]

/-- The first n are a heap. -/
def Hp (a : Nat → Nat) (n : Nat) : Prop := ∀ k, 0 < k → k < n → a ((k - 1) / 2) ≤ a k
/-- .. but for the place j, that may be too low. -/
def HpUp (a : Nat → Nat) (n j : Nat) : Prop := (∀ k, 0 < k → k < n → k ≠ j → a ((k - 1) / 2) ≤ a k) ∧ (∀ k, 0 < k → k < n → (k - 1) / 2 = j → 0 < j → a ((j - 1) / 2) ≤ a k)
/-- .. but for the place i, that may be too high. -/
def HpDn (a : Nat → Nat) (n i : Nat) : Prop := (∀ k, 0 < k → k < n → (k - 1) / 2 ≠ i → a ((k - 1) / 2) ≤ a k) ∧ (∀ k, 0 < k → k < n → (k - 1) / 2 = i → 0 < i → a ((i - 1) / 2) ≤ a k)

theorem HpUp.done {a : Nat → Nat} {n j : Nat} (h : HpUp a n j) (hj : j = 0 ∨ a ((j - 1) / 2) ≤ a j) : Hp a n := fun k h0 hk => by
  by_cases e : k = j
  · subst e
    rcases hj with h | h
    · omega
    · exact h
  · exact h.1 k h0 hk e
theorem HpUp.step {E : List (Nat × Nat)} {n j : Nat} (hn : n = E.length) (h : HpUp (kk E) n j) (h0 : 0 < j) (hj : j < n) (hl : kk E j < kk E ((j - 1) / 2)) : HpUp (kk (swp E ((j - 1) / 2) j)) n ((j - 1) / 2) := by
  obtain ⟨i, hi⟩ : ∃ i, (j - 1) / 2 = i := ⟨_, rfl⟩
  rw [hi] at hl ⊢
  have hij : i < j := by omega
  have e := swp_kk (E := E) (i := i) (j := j) (by omega) (by omega)
  refine ⟨fun k k0 kn hk => ?_, fun k k0 kn hk i0 => ?_⟩
  · rw [e k, e ((k - 1) / 2)]
    have hki : ¬ k = i := hk
    by_cases k1 : k = j
    · subst k1
      rw [if_pos rfl, hi, if_neg (by omega), if_pos rfl]
      omega
    · rw [if_neg k1, if_neg hki]
      have h1 := h.1 k k0 kn k1
      by_cases p1 : (k - 1) / 2 = j
      · rw [if_pos p1]
        have h2 := h.2 k k0 kn p1 h0
        rw [hi] at h2
        exact h2
      · rw [if_neg p1]
        by_cases p2 : (k - 1) / 2 = i
        · rw [if_pos p2]
          rw [p2] at h1
          omega
        · rw [if_neg p2]; exact h1
  · rw [e k, e ((i - 1) / 2)]
    have h3 : kk E ((i - 1) / 2) ≤ kk E i := h.1 i i0 (by omega) (by omega)
    rw [if_neg (show ¬ (i - 1) / 2 = j by omega), if_neg (show ¬ (i - 1) / 2 = i by omega)]
    by_cases k1 : k = j
    · rw [if_pos k1]; exact h3
    · rw [if_neg k1, if_neg (by omega)]
      have h1 := h.1 k k0 kn k1
      rw [hk] at h1
      omega

theorem HpDn.done {a : Nat → Nat} {n i : Nat} (h : HpDn a n i) (hi : ∀ k, 0 < k → k < n → (k - 1) / 2 = i → a i ≤ a k) : Hp a n := fun k h0 hk => by
  by_cases e : (k - 1) / 2 = i
  · rw [e]; exact hi k h0 hk e
  · exact h.1 k h0 hk e
theorem HpDn.step {E : List (Nat × Nat)} {n i j : Nat} (hn : n ≤ E.length) (h : HpDn (kk E) n i) (hj0 : (j - 1) / 2 = i) (hj1 : 0 < j) (hj : j < n) (hmin : ∀ k, 0 < k → k < n → (k - 1) / 2 = i → kk E j ≤ kk E k) (hl : kk E j < kk E i) : HpDn (kk (swp E i j)) n j := by
  have hij : i < j := by omega
  have e := swp_kk (E := E) (i := i) (j := j) (by omega) (by omega)
  refine ⟨fun k k0 kn hk => ?_, fun k k0 kn hk i0 => ?_⟩
  · rw [e k, e ((k - 1) / 2)]
    rw [if_neg hk]
    by_cases k1 : k = j
    · subst k1
      rw [if_pos rfl, if_pos hj0]
      omega
    · rw [if_neg k1]
      by_cases k2 : k = i
      · subst k2
        rw [if_pos rfl, if_neg (by omega)]
        have h1 := h.2 j hj1 hj hj0 k0
        exact h1
      · rw [if_neg k2]
        by_cases p2 : (k - 1) / 2 = i
        · rw [if_pos p2]
          exact hmin k k0 kn p2
        · rw [if_neg p2]; exact h.1 k k0 kn p2
  · rw [e k, e ((j - 1) / 2)]
    rw [if_neg (show ¬ (j - 1) / 2 = j by omega), if_pos hj0, if_neg (show ¬ k = j by omega), if_neg (show ¬ k = i by omega)]
    have h1 := h.1 k k0 kn (by omega)
    rw [hk] at h1
    exact h1

theorem Hp.least {a : Nat → Nat} {n : Nat} (h : Hp a n) : ∀ k, k < n → a 0 ≤ a k := by
  intro k
  induction k using Nat.strongRecOn with
  | _ k ih =>
    intro hk
    rcases Nat.eq_zero_or_pos k with h0 | h0
    · subst h0; exact Nat.le_refl _
    · exact Nat.le_trans (ih ((k - 1) / 2) (by omega) (by omega)) (h k h0 hk)

theorem HpUp.push {E : List (Nat × Nat)} (x : Nat × Nat) (h : Hp (kk E) E.length) : HpUp (kk (E ++ [x])) (E.length + 1) E.length := by
  have e : ∀ k, k < E.length → kk (E ++ [x]) k = kk E k := fun k hk => by
    unfold kk; rw [List.getD_eq_getElem?_getD, List.getD_eq_getElem?_getD, List.getElem?_append_left hk]
  refine ⟨fun k k0 kn hk => ?_, fun k k0 kn hk i0 => by omega⟩
  rw [e k (by omega), e _ (by omega)]
  exact h k k0 (by omega)

/-- The first and the last one have changed places; what stands ahead of the last is a heap but for its head. -/
theorem HpDn.pop {E : List (Nat × Nat)} {n : Nat} (hn : E.length = n + 1) (h : Hp (kk E) (n + 1)) : HpDn (kk (swp E 0 n)) n 0 := by
  have e := swp_kk (E := E) (i := 0) (j := n) (by omega) (by omega)
  refine ⟨fun k k0 kn hk => ?_, fun k k0 kn hk i0 => by omega⟩
  rw [e k, e ((k - 1) / 2), if_neg (show ¬ (k - 1) / 2 = n by omega), if_neg hk, if_neg (show ¬ k = n by omega), if_neg (show ¬ k = 0 by omega)]
  exact h k k0 (by omega)

theorem Hp.congr {a b : Nat → Nat} {n : Nat} (h : Hp a n) (e : ∀ k, k < n → b k = a k) : Hp b n := fun k h0 hk => by
  rw [e k hk, e _ (by omega)]; exact h k h0 hk

end Go.Proofs.Ytdcmalbbijchiaa

/- The library's heap over huff's queue: up, down, Push, Pop. -/
namespace Go.Proofs.Ytdcmalbbijchiaa
open Go.RowKit

theorem Qu.below {w w' : World} {base B : Nat} {sv : Value} {E : List (Nat × Nat)} (h : Qu w base B sv E) (hb : Below w.heap.size w w') : Qu w' base B sv E :=
  h.put (Turns.of_below' hb) ((Turns.of_below' (T := fun _ => False) hb).owns h.own (fun _ _ h => h)) (fun _ he => he)

set_option maxRecDepth 100000 in
set_option maxHeartbeats 1000000 in
theorem up_any (base B : Nat) (sv : Value) (E : List (Nat × Nat)) (j : Nat) (w : World) (h : Qu w base B sv E) (hj : j < E.length) (hu : HpUp (kk E) E.length j) (hlen : E.length ≤ 65536) :
    Calls Try.prog 81 #[.iface 119 (.pointer (some ⟨B, 0, none⟩)), .int .i64 (j : Int)] w fun e w' => e = .returned (.tuple #[]) ∧ ∃ E', E'.Perm E ∧ Hp (kk E') E'.length ∧ Qu w' base B sv E' ∧ Turns (fun b => sv.ownBlock = some b) w w' := by
  obtain ⟨n, hn⟩ : ∃ n, E.length = n := ⟨_, rfl⟩
  rw [hn] at hlen hj hu
  have H := Lib.hid h
  have Hu := Lib.hid hu
  have Hn := Lib.hid hn
  clear h hu hn
  go_enter Try.func81, Try.ntmps81
  go_wp2
  go_loopw [1] (fun jv wr => ∃ (k : Nat) (F : List (Nat × Nat)), jv = .int .i64 (k : Int) ∧ k < n ∧ Hid (F.length = n ∧ F.Perm E ∧ HpUp (kk F) n k) ∧ Hid (Qu wr base B sv F) ∧ Hid (Turns (fun b => sv.ownBlock = some b) w wr)) (fun jv _ => (intOf jv).toNat)
  case atStart => exact ⟨j, E, rfl, hj, Lib.hid ⟨Hn.out, List.Perm.refl _, Hu.out⟩, H, Lib.hid (Turns.refl _ _)⟩
  case round =>
    obtain ⟨k, F, rfl, hk, HF, HQ, HT⟩ := hrel
    have c0 := HQ.out.c0
    have m1 := fun q => method_less q ⟨B, 0, none⟩ sv wr c0
    by_cases h0 : k = 0
    · subst h0
      go_wp2
      go_end0
      obtain ⟨h1, h2, h3⟩ := HF.out
      exact ⟨rfl, F, h2, h1 ▸ h3.done (.inl rfl), HQ.out, HT.out⟩
    · obtain ⟨i, hi⟩ : ∃ i, (k - 1) / 2 = i := ⟨_, rfl⟩
      have hik : i < k := by omega
      have hi1 : ((k : Int) - 1).tdiv 2 = (i : Int) := by
        rw [show ((k : Int) - 1) = ((k - 1 : Nat) : Int) by omega]
        rw [← hi]; rfl
      have e1 : ((i : Int) == (k : Int)) = false := by simp; omega
      have hF := HF.out.1
      have Hi := Lib.hid hi
      clear hi
      go_wp2_with fail
      refine Calls.mono (qless_any base B sv F k i wr HQ.out (by omega) (by omega)) ?_
      rintro e w1 ⟨rfl, hb1⟩
      have HQ1 := Lib.hid (HQ.out.below hb1)
      have HT1 := Lib.hid (HT.out.trans (Turns.of_below' (T := fun b => sv.ownBlock = some b) hb1))
      have c1 := HQ1.out.c0
      have m2 := fun q => method_swap q ⟨B, 0, none⟩ sv w1 c1
      clear hb1 m1 c0
      obtain ⟨lt, hlt⟩ : ∃ lt, decide (F[k].2 < F[i].2) = lt := ⟨_, rfl⟩
      rw [hlt]
      have Hlt := Lib.hid hlt
      clear hlt
      cases lt with
      | false =>
        go_wp2
        go_end0
        obtain ⟨h1, h2, h3⟩ := HF.out
        refine ⟨rfl, F, h2, ?_, HQ1.out, HT1.out⟩
        rw [h1]
        refine h3.done (.inr ?_)
        have := of_decide_eq_false Hlt.out
        rw [Hi.out, kk_at (by omega), kk_at (by omega)]
        omega
      | true =>
        go_wp2_with fail
        refine Calls.mono (qswap_any base B sv F i k w1 HQ1.out (by omega) (by omega) (by omega)) ?_
        rintro e w2 ⟨rfl, hq2, ht2⟩
        have HQ2 : Hid (Qu w2 base B sv (swp F i k)) := Lib.hid (by rw [swp_eq (by omega) (by omega)]; exact hq2)
        have HT2 := Lib.hid (HT1.out.trans ht2)
        have HF2 : Hid ((swp F i k).length = n ∧ (swp F i k).Perm E ∧ HpUp (kk (swp F i k)) n i) := Lib.hid (by
          obtain ⟨h1, h2, h3⟩ := HF.out
          have h4 := HpUp.step h1.symm h3 (by omega) hk (by
            have := of_decide_eq_true Hlt.out
            rw [Hi.out, kk_at (by omega), kk_at (by omega)]
            exact this)
          rw [Hi.out] at h4
          exact ⟨(swp_len F i k).trans h1, (swp_perm (by omega) (by omega)).trans h2, h4⟩)
        clear hq2 ht2
        go_wp2
        go_roundw
        case rel => exact ⟨i, swp F i k, rfl, by omega, HF2, HQ2, HT2⟩
        case measure => simp [intOf]; omega

set_option maxRecDepth 100000 in
set_option maxHeartbeats 2000000 in
theorem down_any (base B : Nat) (sv : Value) (E : List (Nat × Nat)) (m : Nat) (w : World) (h : Qu w base B sv E) (hm : m < E.length) (hd : HpDn (kk E) m 0) (hlen : E.length ≤ 65536) :
    Calls Try.prog 82 #[.iface 119 (.pointer (some ⟨B, 0, none⟩)), .int .i64 0, .int .i64 (m : Int)] w fun e w' => (∃ v, e = .returned v) ∧ ∃ E', E'.Perm E ∧ Hp (kk E') m ∧ (∀ k, m ≤ k → E'[k]? = E[k]?) ∧ Qu w' base B sv E' ∧ Turns (fun b => sv.ownBlock = some b) w w' := by
  have H := Lib.hid h
  have Hd := Lib.hid hd
  clear h hd
  go_enter Try.func82, Try.ntmps82
  go_wp2
  go_loopw [7] (fun iv wr => ∃ (i : Nat) (F : List (Nat × Nat)), iv = .int .i64 (i : Int) ∧ i ≤ m ∧ Hid (F.length = E.length ∧ F.Perm E ∧ HpDn (kk F) m i ∧ ∀ k, m ≤ k → F[k]? = E[k]?) ∧ Hid (Qu wr base B sv F) ∧ Hid (Turns (fun b => sv.ownBlock = some b) w wr)) (fun iv _ => m - (intOf iv).toNat)
  case atStart => exact ⟨0, E, rfl, Nat.zero_le _, Lib.hid ⟨rfl, List.Perm.refl _, Hd.out, fun _ _ => rfl⟩, H, Lib.hid (Turns.refl _ _)⟩
  case round =>
    obtain ⟨i, F, rfl, hi, HF, HQ, HT⟩ := hrel
    have hF := HF.out.1
    obtain ⟨c, hc⟩ : ∃ c, 2 * i + 1 = c := ⟨_, rfl⟩
    have hca : 2 * (i : Int) + 1 = (c : Int) := by omega
    have hn0 : ¬ ((c : Int) < 0) := by omega
    by_cases h1 : c < m
    · have d1 : ¬ ((m : Int) ≤ (c : Int)) := by omega
      by_cases h2 : c + 1 < m
      · obtain ⟨d, hd⟩ : ∃ d, c + 1 = d := ⟨_, rfl⟩
        have hcd : (c : Int) + 1 = (d : Int) := by omega
        have d2 : (d : Int) < (m : Int) := by omega
        have c0 := HQ.out.c0
        have m1 := fun q => method_less q ⟨B, 0, none⟩ sv wr c0
        go_wp2_with fail
        refine Calls.mono (qless_any base B sv F d c wr HQ.out (by omega) (by omega)) ?_
        rintro e w3 ⟨rfl, hb3⟩
        have HQ3 := Lib.hid (HQ.out.below hb3)
        have HT3 := Lib.hid (HT.out.trans (Turns.of_below' (T := fun b => sv.ownBlock = some b) hb3))
        clear hb3 m1 c0
        obtain ⟨lc, hlc⟩ : ∃ lc, decide (F[d].2 < F[c].2) = lc := ⟨_, rfl⟩
        rw [hlc]
        have Hlc := Lib.hid hlc
        clear hlc
        cases lc with
        | true =>
          obtain ⟨j, hj⟩ : ∃ j, d = j := ⟨_, rfl⟩
          have Hmin : Hid (∀ k, 0 < k → k < m → (k - 1) / 2 = i → kk F j ≤ kk F k) := Lib.hid (fun k k0 kn hk => by
            have h3 := of_decide_eq_true Hlc.out
            rw [kk_at (by omega), kk_at (by omega)]
            by_cases e : k = c
            · subst e; subst hj; omega
            · obtain rfl : k = j := by omega
              exact Nat.le_refl _)
          subst hj
          have cj := HQ3.out.c0
          have mj := fun q => method_less q ⟨B, 0, none⟩ sv w3 cj
          go_wp2_with fail
          refine Calls.mono (qless_any base B sv F d i w3 HQ3.out (by omega) (by omega)) ?_
          rintro e w4 ⟨rfl, hb4⟩
          have HQ4 := Lib.hid (HQ3.out.below hb4)
          have HT4 := Lib.hid (HT3.out.trans (Turns.of_below' (T := fun b => sv.ownBlock = some b) hb4))
          have c4 := HQ4.out.c0
          have m4 := fun q => method_swap q ⟨B, 0, none⟩ sv w4 c4
          clear hb4 mj cj
          obtain ⟨lt, hlt⟩ : ∃ lt, decide (F[d].2 < F[i].2) = lt := ⟨_, rfl⟩
          rw [hlt]
          have Hlt := Lib.hid hlt
          clear hlt
          cases lt with
          | false =>
            go_wp2
            go_ret
            obtain ⟨h1, h2, h3, h4⟩ := HF.out
            refine ⟨⟨_, rfl⟩, F, h2, ?_, h4, HQ4.out, HT4.out⟩
            refine h3.done (fun k k0 kn hk => ?_)
            have := of_decide_eq_false Hlt.out
            have h5 := Hmin.out k k0 kn hk
            rw [kk_at (by omega)] at h5 ⊢
            rw [kk_at (by omega)] at h5
            rw [kk_at (by omega)]
            omega
          | true =>
            go_wp2_with fail
            refine Calls.mono (qswap_any base B sv F i d w4 HQ4.out (by omega) (by omega) (by omega)) ?_
            rintro e w5 ⟨rfl, hq5, ht5⟩
            have HQ5 : Hid (Qu w5 base B sv (swp F i d)) := Lib.hid (by rw [swp_eq (by omega) (by omega)]; exact hq5)
            have HT5 := Lib.hid (HT4.out.trans ht5)
            have HF5 : Hid ((swp F i d).length = E.length ∧ (swp F i d).Perm E ∧ HpDn (kk (swp F i d)) m d ∧ ∀ k, m ≤ k → (swp F i d)[k]? = E[k]?) := Lib.hid (by
              obtain ⟨h1, h2, h3, h4⟩ := HF.out
              refine ⟨(swp_len F i d).trans h1, (swp_perm (by omega) (by omega)).trans h2, HpDn.step (by omega) h3 (by omega) (by omega) (by omega) Hmin.out (by
                have := of_decide_eq_true Hlt.out
                rw [kk_at (by omega), kk_at (by omega)]
                exact this), fun k hk => ?_⟩
              unfold swp
              rw [List.getElem?_set_ne (by omega), List.getElem?_set_ne (by omega)]
              exact h4 k hk)
            clear hq5 ht5
            go_wp2
            go_roundw
            case rel => exact ⟨d, swp F i d, by go_num, by omega, HF5, HQ5, HT5⟩
            case measure => simp [intOf]; omega
        | false =>
          obtain ⟨j, hj⟩ : ∃ j, c = j := ⟨_, rfl⟩
          have Hmin : Hid (∀ k, 0 < k → k < m → (k - 1) / 2 = i → kk F j ≤ kk F k) := Lib.hid (fun k k0 kn hk => by
            have h3 := of_decide_eq_false Hlc.out
            rw [kk_at (by omega), kk_at (by omega)]
            by_cases e : k = c
            · subst e; subst hj; exact Nat.le_refl _
            · obtain rfl : k = d := by omega
              subst hj
              omega)
          subst hj
          have cj := HQ3.out.c0
          have mj := fun q => method_less q ⟨B, 0, none⟩ sv w3 cj
          go_wp2_with fail
          refine Calls.mono (qless_any base B sv F c i w3 HQ3.out (by omega) (by omega)) ?_
          rintro e w4 ⟨rfl, hb4⟩
          have HQ4 := Lib.hid (HQ3.out.below hb4)
          have HT4 := Lib.hid (HT3.out.trans (Turns.of_below' (T := fun b => sv.ownBlock = some b) hb4))
          have c4 := HQ4.out.c0
          have m4 := fun q => method_swap q ⟨B, 0, none⟩ sv w4 c4
          clear hb4 mj cj
          obtain ⟨lt, hlt⟩ : ∃ lt, decide (F[c].2 < F[i].2) = lt := ⟨_, rfl⟩
          rw [hlt]
          have Hlt := Lib.hid hlt
          clear hlt
          cases lt with
          | false =>
            go_wp2
            go_ret
            obtain ⟨h1, h2, h3, h4⟩ := HF.out
            refine ⟨⟨_, rfl⟩, F, h2, ?_, h4, HQ4.out, HT4.out⟩
            refine h3.done (fun k k0 kn hk => ?_)
            have := of_decide_eq_false Hlt.out
            have h5 := Hmin.out k k0 kn hk
            rw [kk_at (by omega)] at h5 ⊢
            rw [kk_at (by omega)] at h5
            rw [kk_at (by omega)]
            omega
          | true =>
            go_wp2_with fail
            refine Calls.mono (qswap_any base B sv F i c w4 HQ4.out (by omega) (by omega) (by omega)) ?_
            rintro e w5 ⟨rfl, hq5, ht5⟩
            have HQ5 : Hid (Qu w5 base B sv (swp F i c)) := Lib.hid (by rw [swp_eq (by omega) (by omega)]; exact hq5)
            have HT5 := Lib.hid (HT4.out.trans ht5)
            have HF5 : Hid ((swp F i c).length = E.length ∧ (swp F i c).Perm E ∧ HpDn (kk (swp F i c)) m c ∧ ∀ k, m ≤ k → (swp F i c)[k]? = E[k]?) := Lib.hid (by
              obtain ⟨h1, h2, h3, h4⟩ := HF.out
              refine ⟨(swp_len F i c).trans h1, (swp_perm (by omega) (by omega)).trans h2, HpDn.step (by omega) h3 (by omega) (by omega) (by omega) Hmin.out (by
                have := of_decide_eq_true Hlt.out
                rw [kk_at (by omega), kk_at (by omega)]
                exact this), fun k hk => ?_⟩
              unfold swp
              rw [List.getElem?_set_ne (by omega), List.getElem?_set_ne (by omega)]
              exact h4 k hk)
            clear hq5 ht5
            go_wp2
            go_roundw
            case rel => exact ⟨c, swp F i c, by go_num, by omega, HF5, HQ5, HT5⟩
            case measure => simp [intOf]; omega
      · have d2 : ¬ ((c : Int) + 1 < (m : Int)) := by omega
        have Hmin : Hid (∀ k, 0 < k → k < m → (k - 1) / 2 = i → kk F c ≤ kk F k) := Lib.hid (fun k k0 kn hk => by
          obtain rfl : k = c := by omega
          exact Nat.le_refl _)
        have cj := HQ.out.c0
        have mj := fun q => method_less q ⟨B, 0, none⟩ sv wr cj
        go_wp2_with fail
        refine Calls.mono (qless_any base B sv F c i wr HQ.out (by omega) (by omega)) ?_
        rintro e w4 ⟨rfl, hb4⟩
        have HQ4 := Lib.hid (HQ.out.below hb4)
        have HT4 := Lib.hid (HT.out.trans (Turns.of_below' (T := fun b => sv.ownBlock = some b) hb4))
        have c4 := HQ4.out.c0
        have m4 := fun q => method_swap q ⟨B, 0, none⟩ sv w4 c4
        clear hb4 mj cj
        obtain ⟨lt, hlt⟩ : ∃ lt, decide (F[c].2 < F[i].2) = lt := ⟨_, rfl⟩
        rw [hlt]
        have Hlt := Lib.hid hlt
        clear hlt
        cases lt with
        | false =>
          go_wp2
          go_ret
          obtain ⟨h1, h2, h3, h4⟩ := HF.out
          refine ⟨⟨_, rfl⟩, F, h2, ?_, h4, HQ4.out, HT4.out⟩
          refine h3.done (fun k k0 kn hk => ?_)
          have := of_decide_eq_false Hlt.out
          have h5 := Hmin.out k k0 kn hk
          rw [kk_at (by omega)] at h5 ⊢
          rw [kk_at (by omega)] at h5
          rw [kk_at (by omega)]
          omega
        | true =>
          go_wp2_with fail
          refine Calls.mono (qswap_any base B sv F i c w4 HQ4.out (by omega) (by omega) (by omega)) ?_
          rintro e w5 ⟨rfl, hq5, ht5⟩
          have HQ5 : Hid (Qu w5 base B sv (swp F i c)) := Lib.hid (by rw [swp_eq (by omega) (by omega)]; exact hq5)
          have HT5 := Lib.hid (HT4.out.trans ht5)
          have HF5 : Hid ((swp F i c).length = E.length ∧ (swp F i c).Perm E ∧ HpDn (kk (swp F i c)) m c ∧ ∀ k, m ≤ k → (swp F i c)[k]? = E[k]?) := Lib.hid (by
            obtain ⟨h1, h2, h3, h4⟩ := HF.out
            refine ⟨(swp_len F i c).trans h1, (swp_perm (by omega) (by omega)).trans h2, HpDn.step (by omega) h3 (by omega) (by omega) (by omega) Hmin.out (by
              have := of_decide_eq_true Hlt.out
              rw [kk_at (by omega), kk_at (by omega)]
              exact this), fun k hk => ?_⟩
            unfold swp
            rw [List.getElem?_set_ne (by omega), List.getElem?_set_ne (by omega)]
            exact h4 k hk)
          clear hq5 ht5
          go_wp2
          go_roundw
          case rel => exact ⟨c, swp F i c, by go_num, by omega, HF5, HQ5, HT5⟩
          case measure => simp [intOf]; omega
    · have d1 : ((m : Int) ≤ (c : Int)) := by omega
      go_wp2
      go_ret
      obtain ⟨h1, h2, h3, h4⟩ := HF.out
      exact ⟨⟨_, rfl⟩, F, h2, h3.done (fun k k0 kn hk => by omega), h4, HQ.out, HT.out⟩

end Go.Proofs.Ytdcmalbbijchiaa
