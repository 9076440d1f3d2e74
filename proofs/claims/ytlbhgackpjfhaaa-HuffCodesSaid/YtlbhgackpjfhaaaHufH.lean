/- Heaps as plain lists: a place that is too low or too high is sifted. Nothing here speaks of one program. -/
import Derived.Lib.Hide
namespace Go.Proofs.Ytlbhgackpjfhaaa

/-- The key at a place. -/
def kk (E : List (Nat × Nat)) (k : Nat) : Nat := (E.getD k (0, 0)).2
theorem kk_at {E : List (Nat × Nat)} {k : Nat} (h : k < E.length) : kk E k = E[k].2 := by
  unfold kk; rw [List.getD_eq_getElem?_getD, List.getElem?_eq_getElem h]; rfl

def swp (E : List (Nat × Nat)) (i j : Nat) : List (Nat × Nat) := (E.set i (E.getD j (0, 0))).set j (E.getD i (0, 0))
theorem swp_eq {E : List (Nat × Nat)} {i j : Nat} (hi : i < E.length) (hj : j < E.length) : swp E i j = (E.set i E[j]).set j E[i] := by
  unfold swp; simp [List.getD_eq_getElem?_getD, hi, hj]
theorem swp_len (E : List (Nat × Nat)) (i j : Nat) : (swp E i j).length = E.length := by simp [swp]
theorem swp_perm {E : List (Nat × Nat)} {i j : Nat} (hi : i < E.length) (hj : j < E.length) : (swp E i j).Perm E := by
  rw [swp_eq hi hj]; exact List.set_set_perm hi hj
theorem swp_self {E : List (Nat × Nat)} {i : Nat} (hi : i < E.length) : swp E i i = E := by
  rw [swp_eq hi hi, List.set_set, List.set_getElem_self]
theorem swp_kk {E : List (Nat × Nat)} {i j : Nat} (hi : i < E.length) (hj : j < E.length) (k : Nat) : kk (swp E i j) k = if k = j then kk E i else if k = i then kk E j else kk E k := by
  unfold kk swp
  simp only [List.getD_eq_getElem?_getD, List.getElem?_set, List.length_set]
  by_cases h1 : j = k
  · subst h1; simp [hj]
  · by_cases h2 : i = k
    · subst h2; simp [h1, hi, Ne.symm h1]
    · simp [h1, h2, Ne.symm h1, Ne.symm h2]

/-- The first n are a heap. -/
def Hp (a : Nat → Nat) (n : Nat) : Prop := ∀ k, 0 < k → k < n → a ((k - 1) / 2) ≤ a k
/-- .. but for the place j, that may be too low. -/
def HpUp (a : Nat → Nat) (n j : Nat) : Prop := (∀ k, 0 < k → k < n → k ≠ j → a ((k - 1) / 2) ≤ a k) ∧ (∀ k, 0 < k → k < n → (k - 1) / 2 = j → 0 < j → a ((j - 1) / 2) ≤ a k)
/-- .. but for the place i, that may be too high. -/
def HpDn (a : Nat → Nat) (n i : Nat) : Prop := (∀ k, 0 < k → k < n → (k - 1) / 2 ≠ i → a ((k - 1) / 2) ≤ a k) ∧ (∀ k, 0 < k → k < n → (k - 1) / 2 = i → 0 < i → a ((i - 1) / 2) ≤ a k)

theorem HpUp.done {a : Nat → Nat} {n j : Nat} (h : HpUp a n j) (hj : j = 0 ∨ a ((j - 1) / 2) ≤ a j) : Hp a n := fun k h0 hk => by
  by_cases e : k = j
  · subst e
    rcases hj with h | h
    · omega
    · exact h
  · exact h.1 k h0 hk e
theorem HpUp.step {E : List (Nat × Nat)} {n j : Nat} (hn : n = E.length) (h : HpUp (kk E) n j) (h0 : 0 < j) (hj : j < n) (hl : kk E j < kk E ((j - 1) / 2)) : HpUp (kk (swp E ((j - 1) / 2) j)) n ((j - 1) / 2) := by
  obtain ⟨i, hi⟩ : ∃ i, (j - 1) / 2 = i := ⟨_, rfl⟩
  rw [hi] at hl ⊢
  have hij : i < j := by omega
  have e := swp_kk (E := E) (i := i) (j := j) (by omega) (by omega)
  refine ⟨fun k k0 kn hk => ?_, fun k k0 kn hk i0 => ?_⟩
  · rw [e k, e ((k - 1) / 2)]
    have hki : ¬ k = i := hk
    by_cases k1 : k = j
    · subst k1
      rw [if_pos rfl, hi, if_neg (by omega), if_pos rfl]
      omega
    · rw [if_neg k1, if_neg hki]
      have h1 := h.1 k k0 kn k1
      by_cases p1 : (k - 1) / 2 = j
      · rw [if_pos p1]
        have h2 := h.2 k k0 kn p1 h0
        rw [hi] at h2
        exact h2
      · rw [if_neg p1]
        by_cases p2 : (k - 1) / 2 = i
        · rw [if_pos p2]
          rw [p2] at h1
          omega
        · rw [if_neg p2]; exact h1
  · rw [e k, e ((i - 1) / 2)]
    have h3 : kk E ((i - 1) / 2) ≤ kk E i := h.1 i i0 (by omega) (by omega)
    rw [if_neg (show ¬ (i - 1) / 2 = j by omega), if_neg (show ¬ (i - 1) / 2 = i by omega)]
    by_cases k1 : k = j
    · rw [if_pos k1]; exact h3
    · rw [if_neg k1, if_neg (by omega)]
      have h1 := h.1 k k0 kn k1
      rw [hk] at h1
      omega

theorem HpDn.done {a : Nat → Nat} {n i : Nat} (h : HpDn a n i) (hi : ∀ k, 0 < k → k < n → (k - 1) / 2 = i → a i ≤ a k) : Hp a n := fun k h0 hk => by
  by_cases e : (k - 1) / 2 = i
  · rw [e]; exact hi k h0 hk e
  · exact h.1 k h0 hk e
theorem HpDn.step {E : List (Nat × Nat)} {n i j : Nat} (hn : n ≤ E.length) (h : HpDn (kk E) n i) (hj0 : (j - 1) / 2 = i) (hj1 : 0 < j) (hj : j < n) (hmin : ∀ k, 0 < k → k < n → (k - 1) / 2 = i → kk E j ≤ kk E k) (hl : kk E j < kk E i) : HpDn (kk (swp E i j)) n j := by
  have hij : i < j := by omega
  have e := swp_kk (E := E) (i := i) (j := j) (by omega) (by omega)
  refine ⟨fun k k0 kn hk => ?_, fun k k0 kn hk i0 => ?_⟩
  · rw [e k, e ((k - 1) / 2)]
    rw [if_neg hk]
    by_cases k1 : k = j
    · subst k1
      rw [if_pos rfl, if_pos hj0]
      omega
    · rw [if_neg k1]
      by_cases k2 : k = i
      · subst k2
        rw [if_pos rfl, if_neg (by omega)]
        have h1 := h.2 j hj1 hj hj0 k0
        exact h1
      · rw [if_neg k2]
        by_cases p2 : (k - 1) / 2 = i
        · rw [if_pos p2]
          exact hmin k k0 kn p2
        · rw [if_neg p2]; exact h.1 k k0 kn p2
  · rw [e k, e ((j - 1) / 2)]
    rw [if_neg (show ¬ (j - 1) / 2 = j by omega), if_pos hj0, if_neg (show ¬ k = j by omega), if_neg (show ¬ k = i by omega)]
    have h1 := h.1 k k0 kn (by omega)
    rw [hk] at h1
    exact h1

theorem Hp.least {a : Nat → Nat} {n : Nat} (h : Hp a n) : ∀ k, k < n → a 0 ≤ a k := by
  intro k
  induction k using Nat.strongRecOn with
  | _ k ih =>
    intro hk
    rcases Nat.eq_zero_or_pos k with h0 | h0
    · subst h0; exact Nat.le_refl _
    · exact Nat.le_trans (ih ((k - 1) / 2) (by omega) (by omega)) (h k h0 hk)

theorem HpUp.push {E : List (Nat × Nat)} (x : Nat × Nat) (h : Hp (kk E) E.length) : HpUp (kk (E ++ [x])) (E.length + 1) E.length := by
  have e : ∀ k, k < E.length → kk (E ++ [x]) k = kk E k := fun k hk => by
    unfold kk; rw [List.getD_eq_getElem?_getD, List.getD_eq_getElem?_getD, List.getElem?_append_left hk]
  refine ⟨fun k k0 kn hk => ?_, fun k k0 kn hk i0 => by omega⟩
  rw [e k (by omega), e _ (by omega)]
  exact h k k0 (by omega)

/-- The first and the last one have changed places; what stands ahead of the last is a heap but for its head. -/
theorem HpDn.pop {E : List (Nat × Nat)} {n : Nat} (hn : E.length = n + 1) (h : Hp (kk E) (n + 1)) : HpDn (kk (swp E 0 n)) n 0 := by
  have e := swp_kk (E := E) (i := 0) (j := n) (by omega) (by omega)
  refine ⟨fun k k0 kn hk => ?_, fun k k0 kn hk i0 => by omega⟩
  rw [e k, e ((k - 1) / 2), if_neg (show ¬ (k - 1) / 2 = n by omega), if_neg hk, if_neg (show ¬ k = n by omega), if_neg (show ¬ k = 0 by omega)]
  exact h k k0 (by omega)

theorem Hp.congr {a b : Nat → Nat} {n : Nat} (h : Hp a n) (e : ∀ k, k < n → b k = a k) : Hp b n := fun k h0 hk => by
  rw [e k hk, e _ (by omega)]; exact h k h0 hk

end Go.Proofs.Ytlbhgackpjfhaaa
