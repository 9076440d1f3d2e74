/- Codes as numbers one behind the other (plain): no code begins with another one, and lengths that make a code of all rows leave no gap. -/
import Derived.Test.YtpdfkgdgpofhbaaM836
import Derived.Test.YtpdfkgdgpofhbaaM838
namespace Go.Proofs.Ytpdfkgdgpofhbaa

/-- The number of a symbol's code, the first bit highest. -/
def nu (f : Nat → Nat) (N i : Nat) : Nat := nx f N (f i - 1) i

theorem nu_of {f : Nat → Nat} {N n i : Nat} (h : f i = n + 1) : nu f N i = nx f N n i := by unfold nu; rw [h, Nat.add_sub_cancel]

/-- What is told so far lies one behind the other, without a gap. -/
structure Tiled (f : Nat → Nat) (N n k : Nat) : Prop where
  below : ∀ i, i < N → Tld f n k i → (nu f N i + 1) * 2 ^ (15 - f i) ≤ nx f N n k * 2 ^ (14 - n)
  full : ∀ p, p < nx f N n k * 2 ^ (14 - n) → ∃ i, i < N ∧ Tld f n k i ∧ nu f N i * 2 ^ (15 - f i) ≤ p ∧ p < (nu f N i + 1) * 2 ^ (15 - f i)

theorem Tiled.start (f : Nat → Nat) (N : Nat) : Tiled f N 0 0 := by
  have h : nx f N 0 0 = 0 := by simp [nx, en, cn, sm]
  refine ⟨fun i _ ht => ?_, fun p hp => ?_⟩
  · unfold Tld at ht; omega
  · rw [h, Nat.zero_mul] at hp; omega
theorem Tiled.skip {f : Nat → Nat} {N n k : Nat} (h : Tiled f N n k) (hk : f k ≠ n + 1) : Tiled f N n (k + 1) := by
  refine ⟨fun i hi ht => ?_, fun p hp => ?_⟩
  · rw [nx_skip hk]; exact h.below i hi ((Tld.skip hk).2 ht)
  · rw [nx_skip hk] at hp
    obtain ⟨i, a, b, c⟩ := h.full p hp
    exact ⟨i, a, (Tld.skip hk).1 b, c⟩
theorem Tiled.hand {f : Nat → Nat} {N n k : Nat} (h : Tiled f N n k) (hkN : k < N) (hk : f k = n + 1) : Tiled f N n (k + 1) := by
  have e1 : 15 - f k = 14 - n := by omega
  have e2 := nu_of (N := N) hk
  refine ⟨fun i hi ht => ?_, fun p hp => ?_⟩
  · rw [nx_hand hk]
    rcases (Tld.hand hk).1 ht with h1 | rfl
    · refine Nat.le_trans (h.below i hi h1) (Nat.mul_le_mul_right _ (by omega))
    · rw [e1, e2]; exact Nat.le_refl _
  · rw [nx_hand hk] at hp
    rcases Nat.lt_or_ge p (nx f N n k * 2 ^ (14 - n)) with h1 | h1
    · obtain ⟨i, a, b, c⟩ := h.full p h1
      exact ⟨i, a, (Tld.hand hk).2 (.inl b), c⟩
    · exact ⟨k, hkN, (Tld.hand hk).2 (.inr rfl), by rw [e1, e2]; exact h1, by rw [e1, e2]; exact hp⟩
theorem Tiled.next {f : Nat → Nat} {N n : Nat} (h : Tiled f N n N) (hn : n < 14) : Tiled f N (n + 1) 0 := by
  have e : nx f N (n + 1) 0 * 2 ^ (14 - (n + 1)) = nx f N n N * 2 ^ (14 - n) := by
    rw [nx_next, Nat.mul_assoc, show 14 - n = (14 - (n + 1)) + 1 by omega, Nat.pow_succ, Nat.mul_comm 2]
  refine ⟨fun i hi ht => ?_, fun p hp => ?_⟩
  · rw [e]; exact h.below i hi ((Tld.next hi).2 ht)
  · rw [e] at hp
    obtain ⟨i, a, b, c⟩ := h.full p hp
    exact ⟨i, a, (Tld.next a).1 b, c⟩
theorem tiled_row {f : Nat → Nat} {N n : Nat} (h : Tiled f N n 0) : ∀ k, k ≤ N → Tiled f N n k
  | 0, _ => h
  | k + 1, hk => by
    by_cases e : f k = n + 1
    · exact (tiled_row h k (by omega)).hand (by omega) e
    · exact (tiled_row h k (by omega)).skip e
theorem tiled_start (f : Nat → Nat) (N : Nat) : ∀ n, n ≤ 14 → Tiled f N n 0
  | 0, _ => Tiled.start f N
  | n + 1, hn => (tiled_row (tiled_start f N n (by omega)) N (Nat.le_refl _)).next (by omega)
theorem tiled_all (f : Nat → Nat) (N : Nat) {n k : Nat} (hn : n ≤ 14) (hk : k ≤ N) : Tiled f N n k := tiled_row (tiled_start f N n hn) k hk

theorem pow_split {a b : Nat} (h : a ≤ b) (hb : b ≤ 15) : 2 ^ (15 - a) = 2 ^ (b - a) * 2 ^ (15 - b) := by
  rw [← Nat.pow_add, show b - a + (15 - b) = 15 - a by omega]

/-- No code begins with another one, as numbers. -/
theorem nu_apart {f : Nat → Nat} {N i j : Nat} (hi : i < N) (hj : j < N) (h0 : 0 < f j) (hle : f j ≤ f i) (h15 : f i ≤ 15) (hne : i ≠ j) : nu f N i / 2 ^ (f i - f j) ≠ nu f N j := by
  have key : ∀ i j, i < N → j < N → 0 < f j → f j ≤ f i → f i ≤ 15 → (f j < f i ∨ j < i) → (nu f N j + 1) * 2 ^ (f i - f j) ≤ nu f N i := fun i j hi hj h0 hle h15 hlt => by
    obtain ⟨n, hn⟩ : ∃ n, f i = n + 1 := ⟨f i - 1, by omega⟩
    have h1 := (tiled_all f N (n := n) (k := i) (by omega) (by omega)).below j hj (by unfold Tld; omega)
    rw [← nu_of hn, pow_split hle h15, ← Nat.mul_assoc, show 14 - n = 15 - f i by omega] at h1
    exact Nat.le_of_mul_le_mul_right h1 (Nat.two_pow_pos _)
  by_cases hlt : f j < f i ∨ j < i
  · have h1 := key i j hi hj h0 hle h15 hlt
    have h2 : nu f N j + 1 ≤ nu f N i / 2 ^ (f i - f j) := (Nat.le_div_iff_mul_le (Nat.two_pow_pos _)).2 h1
    omega
  · have e : f i = f j := by omega
    have h1 := key j i hj hi (by omega) (by omega) (by omega) (.inr (by omega))
    rw [e, Nat.sub_self, Nat.pow_zero] at *
    omega

theorem rt_full {f : Nat → Nat} : ∀ {N : Nat}, (∀ i, i < N → f i ≤ 15) → rt f 15 N = room N 15 f
  | 0, _ => by simp [rt, room, sm]
  | N + 1, h => by
    rw [rt_succ, room_succ, rt_full (fun i hi => h i (by omega))]
    have := h N (by omega)
    by_cases h0 : 0 < f N
    · rw [if_pos ⟨h0, this⟩, if_pos h0]
    · rw [if_neg (fun h => h0 h.1), if_neg h0]
theorem nu_full {f : Nat → Nat} {N p : Nat} (hr : room N 15 f = 32768) (h15 : ∀ i, i < N → f i ≤ 15) (hp : p < 32768) : ∃ i, i < N ∧ 0 < f i ∧ nu f N i * 2 ^ (15 - f i) ≤ p ∧ p < (nu f N i + 1) * 2 ^ (15 - f i) := by
  have h1 := rt_en f N 15 (Nat.le_refl _)
  rw [rt_full h15, hr, Nat.sub_self, Nat.pow_zero, Nat.mul_one] at h1
  have h2 : nx f N 14 N = en f N 15 := rfl
  obtain ⟨i, a, b, c⟩ := (tiled_all f N (n := 14) (k := N) (Nat.le_refl _) (Nat.le_refl _)).full p (by rw [h2, h1]; simpa using hp)
  exact ⟨i, a, b.1, c⟩

theorem brow_take {n x t : Nat} (h : t ≤ n) : (brow n x n).take t = brow t (x / 2 ^ (n - t)) t := by
  unfold brow
  rw [← List.map_take, List.take_range, Nat.min_eq_left h]
  refine List.map_congr_left fun i hi => ?_
  have hi := List.mem_range.1 hi
  rw [Nat.div_div_eq_div_mul, ← Nat.pow_add, show n - t + (t - 1 - i) = n - 1 - i by omega]
theorem brow_inj {n x y : Nat} (hx : x < 2 ^ n) (hy : y < 2 ^ n) (h : brow n x n = brow n y n) : x = y := by
  have h1 := congrArg numL h
  rw [numL_brow, numL_brow] at h1
  exact (trn_inj n 0 x 0 y hx hy h1).2

/-- The number of a row, the first bit highest. -/
def hiN (s : List Bool) : Nat := numL s.reverse
theorem hiN_lt (s : List Bool) : hiN s < 2 ^ s.length := by
  have := numL_lt s.reverse
  rwa [List.length_reverse] at this
theorem brow_rev : ∀ r : List Bool, brow r.length (numL r) r.length = r.reverse
  | [] => rfl
  | b :: r => by
    have hb : b.toNat ≤ 1 := Bool.toNat_le b
    rw [List.length_cons, brow_step, numL, show (b.toNat + 2 * numL r) / 2 = numL r by omega, brow_rev r, List.reverse_cons, show (b.toNat + 2 * numL r) % 2 = b.toNat by omega]
    cases b <;> rfl
theorem brow_hiN (s : List Bool) : brow s.length (hiN s) s.length = s := by
  have := brow_rev s.reverse
  rwa [List.length_reverse, List.reverse_reverse] at this

theorem rowOf_len (f : Nat → Nat) (N i : Nat) : (rowOf f N i).length = f i := brow_len _ _ _
theorem rowOf_take {f : Nat → Nat} {N i t : Nat} (h : t ≤ f i) : (rowOf f N i).take t = brow t (nu f N i / 2 ^ (f i - t)) t := brow_take h
theorem nu_fits {f : Nat → Nat} {N i : Nat} (hr : room N 15 f ≤ 32768) (hi : i < N) (h0 : 0 < f i) (h15 : f i ≤ 15) : nu f N i < 2 ^ f i := by
  obtain ⟨n, hn⟩ : ∃ n, f i = n + 1 := ⟨f i - 1, by omega⟩
  rw [nu_of hn, hn]
  exact nx_fits hr (by omega) hi hn

/-- No code begins with another one. -/
theorem row_apart {f : Nat → Nat} {N i j : Nat} (hr : room N 15 f ≤ 32768) (hi : i < N) (hj : j < N) (h0 : 0 < f j) (hle : f j ≤ f i) (h15 : f i ≤ 15) (hne : i ≠ j) : (rowOf f N i).take (f j) ≠ rowOf f N j := by
  rw [rowOf_take hle]
  intro h
  have h1 := nu_fits hr hi (by omega) h15
  refine nu_apart hi hj h0 hle h15 hne (brow_inj (n := f j) ?_ (nu_fits hr hj h0 (by omega)) h)
  refine Nat.div_lt_of_lt_mul ?_
  rw [← Nat.pow_add, show f i - f j + f j = f i by omega]
  exact h1

/-- Every row of bits begins with a code, or a code begins with it. -/
theorem row_full {f : Nat → Nat} {N : Nat} (hr : room N 15 f = 32768) (h15 : ∀ i, i < N → f i ≤ 15) (s : List Bool) (hs : s.length ≤ 15) : ∃ i, i < N ∧ 0 < f i ∧ ((f i ≤ s.length ∧ s.take (f i) = rowOf f N i) ∨ (s.length ≤ f i ∧ (rowOf f N i).take s.length = s)) := by
  obtain ⟨t, ht⟩ : ∃ t, s.length = t := ⟨_, rfl⟩
  have hX := hiN_lt s
  have hB := brow_hiN s
  rw [ht] at hX hB hs ⊢
  generalize hiN s = X at *
  have hp : X * 2 ^ (15 - t) < 32768 := by
    have h1 : 2 ^ t * 2 ^ (15 - t) = 32768 := by rw [← Nat.pow_add, show t + (15 - t) = 15 by omega]
    rw [← h1]
    exact Nat.mul_lt_mul_of_pos_right hX (Nat.two_pow_pos _)
  obtain ⟨i, a, b, c1, c2⟩ := nu_full hr h15 hp
  have hi15 := h15 i a
  refine ⟨i, a, b, ?_⟩
  rcases Nat.le_total (f i) t with h | h
  · refine .inl ⟨h, ?_⟩
    rw [pow_split h hs, ← Nat.mul_assoc] at c1 c2
    have c1 := Nat.le_of_mul_le_mul_right c1 (Nat.two_pow_pos _)
    have c2 := Nat.lt_of_mul_lt_mul_right c2
    have e : X / 2 ^ (t - f i) = nu f N i := by
      have h1 := (Nat.le_div_iff_mul_le (Nat.two_pow_pos (t - f i))).2 c1
      have h2 := (Nat.div_lt_iff_lt_mul (Nat.two_pow_pos (t - f i))).2 c2
      omega
    rw [← hB, brow_take h, e]
    rfl
  · refine .inr ⟨h, ?_⟩
    rw [pow_split h hi15, ← Nat.mul_assoc] at c1 c2
    have c1 := Nat.le_of_mul_le_mul_right c1 (Nat.two_pow_pos _)
    have c2 := Nat.lt_of_mul_lt_mul_right c2
    have e : nu f N i = X * 2 ^ (f i - t) := by omega
    rw [rowOf_take h, e, Nat.mul_div_cancel _ (Nat.two_pow_pos _)]
    exact hB

theorem numL_inj {a b : List Bool} (hl : a.length = b.length) (h : numL a = numL b) : a = b := by
  rw [← bitsL_numL a, ← bitsL_numL b, hl, h]

/-- The bits from a place on. -/
def sg (bs : List Bool) (a t : Nat) : List Bool := (bs.drop a).take t
theorem seg_len {bs : List Bool} {a t : Nat} (h : a + t ≤ bs.length) : (sg bs a t).length = t := by unfold sg; rw [List.length_take, List.length_drop]; omega
theorem sg_take {bs : List Bool} {a t u : Nat} (h : u ≤ t) : (sg bs a t).take u = sg bs a u := by unfold sg; rw [List.take_take, Nat.min_eq_left h]

theorem bt_sg {l : List Nat} {a t : Nat} (hb : ∀ b ∈ l, b < 256) (h : a + t ≤ 8 * l.length) : numL (sg (ofB l) a t) = bt l a t := by
  unfold sg bt
  rw [numL_seg _ _ _ (by rw [ofB_len]; exact h), numL_ofB l hb]

theorem told_iff {f : Nat → Nat} {N : Nat} {F : Nat × Nat → Option Nat} (hF : ToldF f N 15 0 F) {l : List Nat} {a t i : Nat} (hb : ∀ b ∈ l, b < 256) (h : a + t ≤ 8 * l.length) (h15 : ∀ i, i < N → f i ≤ 15) :
    F (bt l a t, t) = some i ↔ i < N ∧ 0 < f i ∧ f i = t ∧ rowOf f N i = sg (ofB l) a t := by
  constructor
  · intro hs
    obtain ⟨h1, h2, h3⟩ := hF.out _ _ hs
    injection h3 with h3 h4
    refine ⟨h1, h2.1, h4.symm, numL_inj ?_ ?_⟩
    · rw [rowOf_len, seg_len (by rw [ofB_len]; exact h)]; exact h4.symm
    · rw [numL_rowOf, bt_sg hb h, h3]
  · rintro ⟨h1, h2, h3, h4⟩
    have h5 := congrArg numL h4
    rw [numL_rowOf, bt_sg hb h] at h5
    rw [← h5, ← h3]
    exact hF.has i h1 ⟨h2, .inl (h15 i h1)⟩

/-- Two answers to one question are one. -/
theorem RdAns.one {F : Nat × Nat → Option Nat} {L : Nat} {l : List Nat} {a x x' : Nat} {e e' : Int} {s s' : Nat} (h : RdAns F L l a x e s) (h' : RdAns F L l a x' e' s') : x = x' ∧ e = e' ∧ s = s' := by
  have key : ∀ {x x' : Nat} {e e' : Int} {s s' : Nat}, RdAns F L l a x e s → RdAns F L l a x' e' s' → ¬ s < s' := fun {x x' e e' s s'} h h' hlt => by
    have h1 := h'.no s
    have h2 := h'.le
    rcases h.ans with ⟨-, p, q⟩ | ⟨-, -, p, -⟩ | ⟨-, -, -, p, -⟩
    · rw [h1 p hlt] at q; cases q
    · omega
    · omega
  have e1 := key h h'
  have e2 := key h' h
  obtain rfl : s = s' := by omega
  rcases h.ans with ⟨p1, p2, p3⟩ | ⟨p1, p2, p3, p4⟩ | ⟨p1, p2, p3, p4, p5⟩ <;> rcases h'.ans with ⟨q1, q2, q3⟩ | ⟨q1, q2, q3, q4⟩ | ⟨q1, q2, q3, q4, q5⟩
  · rw [p3] at q3; injection q3 with q3; exact ⟨q3, by rw [p1, q1], rfl⟩
  · rw [q4 p2] at p3; cases p3
  · rw [q5 p2] at p3; cases p3
  · rw [p4 q2] at q3; cases q3
  · exact ⟨by rw [p2, q2], by rw [p1, q1], rfl⟩
  · omega
  · rw [p5 q2] at q3; cases q3
  · omega
  · exact ⟨by rw [p2, q2], by rw [p1, q1], rfl⟩

/-- As long as no code is read and the longest one is longer, some code goes on so. -/
theorem goes {ls : List Nat} (hc : chk ls = 0) {L : Nat} (hL : ToldM (lq ls) ls.length 15 0 L) {bs : List Bool} {a t : Nat} (h : a + t ≤ bs.length) (hn : ∀ u i, 1 ≤ u → u ≤ t → i < ls.length → lq ls i = u → rowOf (lq ls) ls.length i ≠ sg bs a u) (ht : t < L) :
    ∃ i, i < ls.length ∧ t ≤ lq ls i ∧ 0 < lq ls i ∧ (rowOf (lq ls) ls.length i).take t = sg bs a t := by
  obtain ⟨h1, h15, h3⟩ := chk_zero hc
  rcases hL.le with h0 | ⟨j, j1, j2, j3⟩
  · omega
  have hj15 := h15 j j1
  rcases Nat.eq_zero_or_pos t with rfl | ht0
  · exact ⟨j, j1, by omega, j2.1, by simp [sg]⟩
  · have hroom : room ls.length 15 (lq ls) = 32768 := by
      rcases h3 with h3 | h3 | ⟨h3, h4⟩
      · exfalso
        have : ∀ k, j < k → 0 < many k (lq ls) := fun k => by
          induction k with
          | zero => intro h; omega
          | succ k ih =>
            intro hk
            rw [many_succ]
            rcases Nat.lt_or_ge j k with h5 | h5
            · have := ih h5; omega
            · obtain rfl : j = k := by omega
              rw [if_pos j2.1]; omega
        have := this _ j1
        omega
      · exact h3
      · exfalso
        have hone : ∀ k, j < k → 2 ^ (15 - lq ls j) ≤ room k 15 (lq ls) ∧ (many k (lq ls) = 1 → room k 15 (lq ls) = 2 ^ (15 - lq ls j)) ∧ 0 < many k (lq ls) := fun k => by
          induction k with
          | zero => intro h; omega
          | succ k ih =>
            intro hk
            rw [many_succ, room_succ]
            rcases Nat.lt_or_ge j k with h5 | h5
            · obtain ⟨a1, a2, a3⟩ := ih h5
              split
              · exact ⟨Nat.le_trans a1 (Nat.le_add_right _ _), fun h => by omega, by omega⟩
              · exact ⟨by omega, fun h => a2 (by omega), by omega⟩
            · obtain rfl : j = k := by omega
              rw [if_pos j2.1, if_pos j2.1]
              refine ⟨by omega, fun h => ?_, by omega⟩
              have h6 : many j (lq ls) = 0 := by omega
              have h7 : ∀ k, many k (lq ls) = 0 → room k 15 (lq ls) = 0 := fun k => by
                induction k with
                | zero => intro _; rfl
                | succ k ih =>
                  intro hk
                  rw [many_succ] at hk
                  rw [room_succ, ih (by omega)]
                  split at hk
                  · omega
                  · rename_i hh; rw [if_neg hh]
              rw [h7 _ h6]; omega
        have h5 := (hone _ j1).2.1 h3
        rw [h4, j3] at h5
        have h6 : 2 ^ (15 - L) ≤ 2 ^ 13 := Nat.pow_le_pow_right (by decide) (by omega)
        have h7 : (2 : Nat) ^ 13 = 8192 := rfl
        omega
    have hsl := seg_len h
    obtain ⟨i, i1, i2, i3⟩ := row_full hroom h15 (sg bs a t) (by omega)
    rw [hsl] at i3
    rcases i3 with ⟨i3, i4⟩ | ⟨i3, i4⟩
    · rw [sg_take i3] at i4
      exact absurd i4.symm (hn _ i i2 i3 i1 rfl)
    · exact ⟨i, i1, i3, i2, i4⟩

end Go.Proofs.Ytpdfkgdgpofhbaa
