/- Lengths that make a code give every symbol a code of its own (plain facts). -/
import Derived.Test.YtajidlihepjegaaE825
namespace Go.Proofs.Ytajidlihepjegaa

theorem trn_inj : ∀ n r x r' x', x < 2 ^ n → x' < 2 ^ n → trn n r x = trn n r' x' → r = r' ∧ x = x'
  | 0, r, x, r', x', h1, h2, h => by
    simp only [Nat.pow_zero] at h1 h2
    exact ⟨h, by omega⟩
  | n + 1, r, x, r', x', h1, h2, h => by
    rw [trn, trn] at h
    rw [Nat.pow_succ] at h1 h2
    obtain ⟨a, b⟩ := trn_inj n _ _ _ _ (by omega) (by omega) h
    omega

/-- The room that the codes of at most n bits take. -/
def rt (f : Nat → Nat) (n N : Nat) : Nat := sm N fun i => if 0 < f i ∧ f i ≤ n then 2 ^ (15 - f i) else 0
theorem rt_succ (f : Nat → Nat) (n N : Nat) : rt f n (N + 1) = rt f n N + (if 0 < f N ∧ f N ≤ n then 2 ^ (15 - f N) else 0) := rfl
theorem rt_next (f : Nat → Nat) (n : Nat) : ∀ N, rt f (n + 1) N = rt f n N + cn f (n + 1) N * 2 ^ (15 - (n + 1))
  | 0 => by simp [rt, cn, sm]
  | N + 1 => by
    rw [rt_succ, rt_succ, rt_next f n N, cn_succ, Nat.add_mul]
    by_cases h : f N = n + 1
    · rw [if_pos (by omega), if_neg (by omega), if_pos h, h]; omega
    · rw [if_neg h]
      by_cases h2 : 0 < f N ∧ f N ≤ n
      · rw [if_pos (by omega), if_pos h2]; omega
      · rw [if_neg (by omega), if_neg h2]; omega
theorem rt_le (f : Nat → Nat) (n : Nat) : ∀ N, rt f n N ≤ room N 15 f
  | 0 => by simp [rt, sm]
  | N + 1 => by
    have := rt_le f n N
    rw [rt_succ, room_succ]
    by_cases h : 0 < f N ∧ f N ≤ n
    · rw [if_pos h, if_pos h.1]; omega
    · rw [if_neg h]; omega
theorem rt_en (f : Nat → Nat) (N : Nat) : ∀ n, n ≤ 15 → en f N n * 2 ^ (15 - n) = rt f n N
  | 0, _ => by
    rw [en, Nat.zero_mul]
    have : ∀ N, rt f 0 N = 0 := fun N => by
      induction N with
      | zero => rfl
      | succ N ih => rw [rt_succ, ih, if_neg (by omega)]
    rw [this]
  | n + 1, h => by
    rw [en, Nat.add_mul, rt_next, ← rt_en f N n (by omega), show 15 - n = (15 - (n + 1)) + 1 by omega, Nat.pow_succ]
    congr 1
    rw [Nat.mul_assoc, Nat.mul_comm 2]
theorem en_fits {f : Nat → Nat} {N n : Nat} (hr : room N 15 f ≤ 32768) (hn : n ≤ 15) : en f N n ≤ 2 ^ n := by
  have h1 := rt_en f N n hn
  have h2 := rt_le f n N
  have h3 : 2 ^ n * 2 ^ (15 - n) = 32768 := by rw [← Nat.pow_add, show n + (15 - n) = 15 by omega]
  have h4 : 0 < 2 ^ (15 - n) := Nat.two_pow_pos _
  exact Nat.le_of_mul_le_mul_right (by omega) h4
theorem cn_lt {f : Nat → Nat} {n N k : Nat} (hk : k < N) (h : f k = n) : cn f n k < cn f n N := by
  have mono : ∀ a b, a ≤ b → cn f n a ≤ cn f n b := fun a b hab => by
    induction b with
    | zero => obtain rfl : a = 0 := by omega
              exact Nat.le_refl _
    | succ b ih =>
      rcases Nat.lt_or_ge a (b + 1) with h1 | h1
      · have := ih (by omega)
        rw [cn_succ]; omega
      · obtain rfl : a = b + 1 := by omega
        exact Nat.le_refl _
  have h1 := mono (k + 1) N hk
  rw [cn_succ, if_pos h] at h1
  omega
theorem nx_fits {f : Nat → Nat} {N n k : Nat} (hr : room N 15 f ≤ 32768) (hn : n < 15) (hk : k < N) (h : f k = n + 1) : nx f N n k < 2 ^ (n + 1) := by
  have h1 := en_fits (n := n + 1) hr hn
  have h2 := cn_lt hk h
  rw [en] at h1
  unfold nx
  omega

theorem apt_of {f : Nat → Nat} {N : Nat} (hr : room N 15 f ≤ 32768) (h15 : ∀ i, i < N → f i ≤ 15) : Apt f N := by
  intro i j hi hj h0 he hc
  unfold cd at hc
  obtain ⟨n, hn⟩ : ∃ n, f i = n + 1 := ⟨f i - 1, by omega⟩
  have hnj : f j = n + 1 := by omega
  have hb := h15 i hi
  rw [hn, hnj, Nat.add_sub_cancel] at hc
  have h1 := (trn_inj (n + 1) _ _ _ _ (nx_fits hr (by omega) hi hn) (nx_fits hr (by omega) hj hnj) hc).2
  unfold nx at h1
  rcases Nat.lt_trichotomy i j with h2 | h2 | h2
  · have := cn_lt (f := f) (n := n + 1) h2 hn; omega
  · exact h2
  · have := cn_lt (f := f) (n := n + 1) h2 hnj; omega

theorem room_of_chk {ls : List Nat} (h : chk ls = 0) : room ls.length 15 (lq ls) ≤ 32768 := by
  obtain ⟨-, -, h3⟩ := chk_zero h
  rcases h3 with h3 | h3 | h3
  · have : ∀ k, many k (lq ls) = 0 → room k 15 (lq ls) = 0 := fun k => by
      induction k with
      | zero => intro _; rfl
      | succ k ih =>
        intro hk
        rw [many_succ] at hk
        rw [room_succ, ih (by omega)]
        split at hk
        · omega
        · rename_i hh; rw [if_neg hh]
    rw [this _ h3]; omega
  · omega
  · omega

theorem apt_chk {ls : List Nat} (h : chk ls = 0) : Apt (lq ls) ls.length := apt_of (room_of_chk h) (chk_zero h).2.1

end Go.Proofs.Ytajidlihepjegaa
