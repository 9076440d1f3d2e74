/- Several texts in one, each with its own head. -/
import Derived.Test.YtebfdoipogjpnaaGreatQd24
import Derived.Test.YtebfdoipogjpnaaGreatQd16
import Derived.Test.YtebfdoipogjpnaaGreatQd15
/- inflate, plainly: streams that are laid with one thing wrong in their own codes. -/
namespace Go.Proofs.YtebfdoipogjpnaaGreat

theorem wr_dy {l : List Nat} {e : Int} (h1 : 3 ≤ 8 * l.length) (h2 : nb l 1 2 = 2) (h : InfDy l 3 0 (.no e)) : Infl l 100 [] 0 e := .no 100 e rfl (by decide) (.no 0 [] (by omega) e (.bad h1 h2 e h))

theorem wr4 : Infl [245, 0, 0] 100 [] 0 80 := wr_dy (by decide) (by decide +kernel) (.many (by decide) (by decide +kernel))
theorem wr5 : Infl [5, 30, 0] 100 [] 0 80 := wr_dy (by decide) (by decide +kernel) (.many (by decide) (by decide +kernel))

def w6 : List Nat := [5, 0, 146, 0]
theorem wr6 : Infl w6 100 [] 0 60 := wr_dy (by decide) (by decide +kernel) (by
  have h := InfDy.code (l := w6) (a := 3) (by decide) (by decide +kernel) (by decide +kernel) (by decide +kernel)
  have e : chk (clL w6 (3 + 14) (nb w6 (3 + 10) 4 + 4)) = 60 := by decide +kernel
  rw [e] at h
  exact h)

def c16 : List Nat := [0, 0, 0, 0, 0, 0, 0, 0, 0, 0, 0, 0, 0, 0, 0, 0, 1, 0, 0]
def c18 : List Nat := [0, 0, 0, 0, 0, 0, 0, 0, 0, 0, 0, 0, 0, 0, 0, 0, 0, 0, 1]
theorem c16_chk : chk c16 = 0 := by decide +kernel
theorem c18_chk : chk c18 = 0 := by decide +kernel

def w7 : List Nat := [5, 0, 2, 0]
theorem w7_s : Sy c16 w7 29 16 0 1 := sy_of c16_chk (by decide) (by decide) (by decide +kernel) (by decide +kernel) (by decide +kernel) (by decide)
theorem wr7 : Infl w7 100 [] 0 80 := wr_dy (by decide) (by decide +kernel) (by
  have e : clL w7 (3 + 14) (nb w7 (3 + 10) 4 + 4) = c16 := by decide +kernel
  have e2 : 3 + 14 + 3 * (nb w7 (3 + 10) 4 + 4) = 29 := by decide +kernel
  exact .lens (by decide) (by decide +kernel) (by decide +kernel) (by rw [e]; exact c16_chk) 80 (by
    rw [e, e2]
    exact .no 29 [] 80 (by decide +kernel) (.first 1 w7_s rfl)))

def w8 : List Nat := [5, 0, 128, 192, 223, 31]
theorem w8_s : Sy c18 w8 29 18 0 1 := sy_of c18_chk (by decide) (by decide) (by decide +kernel) (by decide +kernel) (by decide +kernel) (by decide)
theorem w8_t : Sy c18 w8 37 18 0 1 := sy_of c18_chk (by decide) (by decide) (by decide +kernel) (by decide +kernel) (by decide +kernel) (by decide)
theorem w8_g : InfSv c18 w8 258 29 [] (.go 37 (List.replicate 138 0)) := by
  have h := InfSv.go (C := c18) (l := w8) (n := 258) (a := 29) (ls := []) 18 1 7 11 0 w8_s (.inr (.inr (.inl ⟨rfl, rfl, rfl, rfl⟩))) (by decide) (by decide +kernel)
  have e : InfSt.go (29 + 1 + 7) ([] ++ List.replicate (11 + nb w8 (29 + 1) 7) 0) = .go 37 (List.replicate 138 0) := by
    congr 1
  rw [e] at h
  exact h
theorem w8_b : InfSv c18 w8 258 37 (List.replicate 138 0) (.no 80) :=
  .many 18 1 7 11 0 w8_t (.inr (.inr (.inl ⟨rfl, rfl, rfl, rfl⟩))) (by decide) (by decide +kernel)
theorem wr8 : Infl w8 100 [] 0 80 := wr_dy (by decide) (by decide +kernel) (by
  have e : clL w8 (3 + 14) (nb w8 (3 + 10) 4 + 4) = c18 := by decide +kernel
  have e2 : 3 + 14 + 3 * (nb w8 (3 + 10) 4 + 4) = 29 := by decide +kernel
  have e3 : nb w8 3 5 + 257 + (nb w8 (3 + 5) 5 + 1) = 258 := by decide +kernel
  exact .lens (by decide) (by decide +kernel) (by decide +kernel) (by rw [e]; exact c18_chk) 80 (by
    rw [e, e2, e3]
    exact .more 29 37 [] _ _ (by decide) w8_g (.no 37 _ 80 (by rw [List.length_replicate]; decide) w8_b)))

def w9 : List Nat := [5, 0, 128, 192, 95, 27]
theorem w9_s : Sy c18 w9 29 18 0 1 := sy_of c18_chk (by decide) (by decide) (by decide +kernel) (by decide +kernel) (by decide +kernel) (by decide)
theorem w9_t : Sy c18 w9 37 18 0 1 := sy_of c18_chk (by decide) (by decide) (by decide +kernel) (by decide +kernel) (by decide +kernel) (by decide)
theorem w9_g : InfSv c18 w9 258 29 [] (.go 37 (List.replicate 138 0)) := by
  have h := InfSv.go (C := c18) (l := w9) (n := 258) (a := 29) (ls := []) 18 1 7 11 0 w9_s (.inr (.inr (.inl ⟨rfl, rfl, rfl, rfl⟩))) (by decide) (by decide +kernel)
  have e : InfSt.go (29 + 1 + 7) ([] ++ List.replicate (11 + nb w9 (29 + 1) 7) 0) = .go 37 (List.replicate 138 0) := by
    congr 1
  rw [e] at h
  exact h
theorem w9_h : InfSv c18 w9 258 37 (List.replicate 138 0) (.go 45 (List.replicate 258 0)) := by
  have n1 : nb w9 (37 + 1) 7 = 109 := by decide +kernel
  have h := InfSv.go (C := c18) (l := w9) (n := 258) (a := 37) (ls := List.replicate 138 0) 18 1 7 11 0 w9_t (.inr (.inr (.inl ⟨rfl, rfl, rfl, rfl⟩))) (by decide) (by rw [n1, List.length_replicate]; decide)
  have e : InfSt.go (37 + 1 + 7) (List.replicate 138 0 ++ List.replicate (11 + nb w9 (37 + 1) 7) 0) = .go 45 (List.replicate 258 0) := by
    rw [n1, List.replicate_append_replicate]
  rw [e] at h
  exact h
theorem wr9 : Infl w9 100 [] 0 80 := wr_dy (by decide) (by decide +kernel) (by
  have e : clL w9 (3 + 14) (nb w9 (3 + 10) 4 + 4) = c18 := by decide +kernel
  have e2 : 3 + 14 + 3 * (nb w9 (3 + 10) 4 + 4) = 29 := by decide +kernel
  have e3 : nb w9 3 5 + 257 + (nb w9 (3 + 5) 5 + 1) = 258 := by decide +kernel
  exact .last (by decide) (by decide +kernel) (by decide +kernel) (by rw [e]; exact c18_chk) 45 (List.replicate 258 0) (by
    rw [e, e2, e3]
    exact .more 29 37 [] _ _ (by decide) w9_g (.more 37 45 _ _ _ (by rw [List.length_replicate]; decide) w9_h (.fin 45 _ (by rw [List.length_replicate]; decide)))) 80 (.inl ⟨by decide +kernel, rfl⟩))

def w10 : List Nat := [5, 0, 128, 32]
theorem w10_s : Sy c18 w10 29 0 60 1 := sy_none c18_chk (by decide +kernel) 18 (by decide) (by decide +kernel) (by decide) (by decide +kernel) (by decide)
theorem wr10 : Infl w10 100 [] 0 60 := wr_dy (by decide) (by decide +kernel) (by
  have e : clL w10 (3 + 14) (nb w10 (3 + 10) 4 + 4) = c18 := by decide +kernel
  have e2 : 3 + 14 + 3 * (nb w10 (3 + 10) 4 + 4) = 29 := by decide +kernel
  exact .lens (by decide) (by decide +kernel) (by decide +kernel) (by rw [e]; exact c18_chk) 60 (by
    rw [e, e2]
    exact .no 29 [] 60 (by decide +kernel) (.bad 0 1 60 w10_s (by decide))))

end Go.Proofs.YtebfdoipogjpnaaGreat

/- Codes as numbers one behind the other (plain; nothing of the document's own answers): no code begins with another one, and lengths that make a code of all rows leave no gap. -/
namespace Go.Proofs.YtebfdoipogjpnaaGreat

theorem trn_acc : ∀ n r x, trn n r x = r * 2 ^ n + trn n 0 x
  | 0, r, x => by simp [trn]
  | n + 1, r, x => by
    rw [trn, trn, trn_acc n (r * 2 + x % 2), trn_acc n (0 * 2 + x % 2), Nat.pow_succ, Nat.add_mul, Nat.zero_mul, Nat.zero_add, Nat.mul_assoc r, Nat.mul_comm 2, Nat.add_assoc]

/-- The number of a symbol's code, the first bit highest. -/
def nu (f : Nat → Nat) (N i : Nat) : Nat := nx f N (f i - 1) i

theorem nu_of {f : Nat → Nat} {N n i : Nat} (h : f i = n + 1) : nu f N i = nx f N n i := by unfold nu; rw [h, Nat.add_sub_cancel]

theorem nxz_skip {f : Nat → Nat} {N n k : Nat} (h : f k ≠ n + 1) : nx f N n (k + 1) = nx f N n k := by unfold nx; rw [cn_succ, if_neg h]; omega
theorem nxz_hand {f : Nat → Nat} {N n k : Nat} (h : f k = n + 1) : nx f N n (k + 1) = nx f N n k + 1 := by unfold nx; rw [cn_succ, if_pos h]; omega
theorem nxz_next (f : Nat → Nat) (N n : Nat) : nx f N (n + 1) 0 = nx f N n N * 2 := by
  unfold nx
  rw [en]
  simp [cn, sm]

/-- What is told so far lies one behind the other, without a gap. -/
structure Tiled (f : Nat → Nat) (N n k : Nat) : Prop where
  below : ∀ i, i < N → Tld f n k i → (nu f N i + 1) * 2 ^ (15 - f i) ≤ nx f N n k * 2 ^ (14 - n)
  full : ∀ p, p < nx f N n k * 2 ^ (14 - n) → ∃ i, i < N ∧ Tld f n k i ∧ nu f N i * 2 ^ (15 - f i) ≤ p ∧ p < (nu f N i + 1) * 2 ^ (15 - f i)

theorem Tiled.start (f : Nat → Nat) (N : Nat) : Tiled f N 0 0 := by
  have h : nx f N 0 0 = 0 := by simp [nx, en, cn, sm]
  refine ⟨fun i _ ht => ?_, fun p hp => ?_⟩
  · unfold Tld at ht; omega
  · rw [h, Nat.zero_mul] at hp; omega
theorem Tiled.skip {f : Nat → Nat} {N n k : Nat} (h : Tiled f N n k) (hk : f k ≠ n + 1) : Tiled f N n (k + 1) := by
  refine ⟨fun i hi ht => ?_, fun p hp => ?_⟩
  · rw [nxz_skip hk]; exact h.below i hi ((Tld.skip hk).2 ht)
  · rw [nxz_skip hk] at hp
    obtain ⟨i, a, b, c⟩ := h.full p hp
    exact ⟨i, a, (Tld.skip hk).1 b, c⟩
theorem Tiled.hand {f : Nat → Nat} {N n k : Nat} (h : Tiled f N n k) (hkN : k < N) (hk : f k = n + 1) : Tiled f N n (k + 1) := by
  have e1 : 15 - f k = 14 - n := by omega
  have e2 := nu_of (N := N) hk
  refine ⟨fun i hi ht => ?_, fun p hp => ?_⟩
  · rw [nxz_hand hk]
    rcases (Tld.hand hk).1 ht with h1 | rfl
    · refine Nat.le_trans (h.below i hi h1) (Nat.mul_le_mul_right _ (by omega))
    · rw [e1, e2]; exact Nat.le_refl _
  · rw [nxz_hand hk] at hp
    rcases Nat.lt_or_ge p (nx f N n k * 2 ^ (14 - n)) with h1 | h1
    · obtain ⟨i, a, b, c⟩ := h.full p h1
      exact ⟨i, a, (Tld.hand hk).2 (.inl b), c⟩
    · exact ⟨k, hkN, (Tld.hand hk).2 (.inr rfl), by rw [e1, e2]; exact h1, by rw [e1, e2]; exact hp⟩
theorem Tiled.next {f : Nat → Nat} {N n : Nat} (h : Tiled f N n N) (hn : n < 14) : Tiled f N (n + 1) 0 := by
  have e : nx f N (n + 1) 0 * 2 ^ (14 - (n + 1)) = nx f N n N * 2 ^ (14 - n) := by
    rw [nxz_next, Nat.mul_assoc, show 14 - n = (14 - (n + 1)) + 1 by omega, Nat.pow_succ, Nat.mul_comm 2]
  refine ⟨fun i hi ht => ?_, fun p hp => ?_⟩
  · rw [e]; exact h.below i hi ((Tld.next hi).2 ht)
  · rw [e] at hp
    obtain ⟨i, a, b, c⟩ := h.full p hp
    exact ⟨i, a, (Tld.next a).1 b, c⟩
theorem tiled_row {f : Nat → Nat} {N n : Nat} (h : Tiled f N n 0) : ∀ k, k ≤ N → Tiled f N n k
  | 0, _ => h
  | k + 1, hk => by
    by_cases e : f k = n + 1
    · exact (tiled_row h k (by omega)).hand (by omega) e
    · exact (tiled_row h k (by omega)).skip e
theorem tiled_start (f : Nat → Nat) (N : Nat) : ∀ n, n ≤ 14 → Tiled f N n 0
  | 0, _ => Tiled.start f N
  | n + 1, hn => (tiled_row (tiled_start f N n (by omega)) N (Nat.le_refl _)).next (by omega)
theorem tiled_all (f : Nat → Nat) (N : Nat) {n k : Nat} (hn : n ≤ 14) (hk : k ≤ N) : Tiled f N n k := tiled_row (tiled_start f N n hn) k hk

theorem pow_split {a b : Nat} (h : a ≤ b) (hb : b ≤ 15) : 2 ^ (15 - a) = 2 ^ (b - a) * 2 ^ (15 - b) := by
  rw [← Nat.pow_add, show b - a + (15 - b) = 15 - a by omega]

/-- No code begins with another one, as numbers. -/
theorem nu_apart {f : Nat → Nat} {N i j : Nat} (hi : i < N) (hj : j < N) (h0 : 0 < f j) (hle : f j ≤ f i) (h15 : f i ≤ 15) (hne : i ≠ j) : nu f N i / 2 ^ (f i - f j) ≠ nu f N j := by
  have key : ∀ i j, i < N → j < N → 0 < f j → f j ≤ f i → f i ≤ 15 → (f j < f i ∨ j < i) → (nu f N j + 1) * 2 ^ (f i - f j) ≤ nu f N i := fun i j hi hj h0 hle h15 hlt => by
    obtain ⟨n, hn⟩ : ∃ n, f i = n + 1 := ⟨f i - 1, by omega⟩
    have h1 := (tiled_all f N (n := n) (k := i) (by omega) (by omega)).below j hj (by unfold Tld; omega)
    rw [← nu_of hn, pow_split hle h15, ← Nat.mul_assoc, show 14 - n = 15 - f i by omega] at h1
    exact Nat.le_of_mul_le_mul_right h1 (Nat.two_pow_pos _)
  by_cases hlt : f j < f i ∨ j < i
  · have h1 := key i j hi hj h0 hle h15 hlt
    have h2 : nu f N j + 1 ≤ nu f N i / 2 ^ (f i - f j) := (Nat.le_div_iff_mul_le (Nat.two_pow_pos _)).2 h1
    omega
  · have e : f i = f j := by omega
    have h1 := key j i hj hi (by omega) (by omega) (by omega) (.inr (by omega))
    rw [e, Nat.sub_self, Nat.pow_zero] at *
    omega

theorem rt_full {f : Nat → Nat} : ∀ {N : Nat}, (∀ i, i < N → f i ≤ 15) → rt f 15 N = room N 15 f
  | 0, _ => by simp [rt, room, sm]
  | N + 1, h => by
    rw [rt_succ, room_succ, rt_full (fun i hi => h i (by omega))]
    have := h N (by omega)
    by_cases h0 : 0 < f N
    · rw [if_pos ⟨h0, this⟩, if_pos h0]
    · rw [if_neg (fun h => h0 h.1), if_neg h0]
theorem nu_full {f : Nat → Nat} {N p : Nat} (hr : room N 15 f = 32768) (h15 : ∀ i, i < N → f i ≤ 15) (hp : p < 32768) : ∃ i, i < N ∧ 0 < f i ∧ nu f N i * 2 ^ (15 - f i) ≤ p ∧ p < (nu f N i + 1) * 2 ^ (15 - f i) := by
  have h1 := rt_en f N 15 (Nat.le_refl _)
  rw [rt_full h15, hr, Nat.sub_self, Nat.pow_zero, Nat.mul_one] at h1
  have h2 : nx f N 14 N = en f N 15 := rfl
  obtain ⟨i, a, b, c⟩ := (tiled_all f N (n := 14) (k := N) (Nat.le_refl _) (Nat.le_refl _)).full p (by rw [h2, h1]; simpa using hp)
  exact ⟨i, a, b.1, c⟩

theorem nu_fits {f : Nat → Nat} {N i : Nat} (hr : room N 15 f ≤ 32768) (hi : i < N) (h0 : 0 < f i) (h15 : f i ≤ 15) : nu f N i < 2 ^ f i := by
  obtain ⟨n, hn⟩ : ∃ n, f i = n + 1 := ⟨f i - 1, by omega⟩
  rw [nu_of hn, hn]
  exact nx_fits hr (by omega) hi hn


theorem trn_low (n x : Nat) : trn n 0 x < 2 ^ n := by
  have := trn_lt n 0 x
  rwa [Nat.zero_add, Nat.one_mul] at this
/-- The lowest bits of a number that was turned are its highest, turned. -/
theorem trn_mod : ∀ n t x, t ≤ n → trn n 0 x % 2 ^ t = trn t 0 (x / 2 ^ (n - t))
  | 0, t, x, h => by
    obtain rfl : t = 0 := by omega
    simp [trn]
  | n + 1, t, x, h => by
    by_cases e : t = n + 1
    · subst e
      rw [Nat.sub_self, Nat.pow_zero, Nat.div_one, Nat.mod_eq_of_lt (trn_low _ _)]
    · have h1 : t ≤ n := by omega
      rw [trn, trn_acc, Nat.zero_mul, Nat.zero_add, show x % 2 * 2 ^ n = 2 ^ t * (x % 2 * 2 ^ (n - t)) by
        rw [Nat.mul_comm (2 ^ t), Nat.mul_assoc, ← Nat.pow_add, Nat.sub_add_cancel h1], Nat.mul_add_mod, trn_mod n t _ h1, Nat.div_div_eq_div_mul, ← Nat.pow_succ', show (n - t).succ = n + 1 - t by omega]
/-- No code begins with another one, as numbers whose first bit is lowest. -/
theorem cdn_apart {ls : List Nat} (hc : chk ls = 0) {i k : Nat} (hi : i < ls.length) (hk : k < ls.length) (h0 : 0 < lq ls i) (hle : lq ls i ≤ lq ls k) (hne : i ≠ k) : cd (lq ls) ls.length k % 2 ^ lq ls i ≠ cd (lq ls) ls.length i := by
  intro h
  have hr := room_of_chk hc
  have h15 := (chk_zero hc).2.1
  have f1 := nu_fits hr hi h0 (h15 i hi)
  have f2 := nu_fits hr hk (by omega) (h15 k hk)
  unfold cd at h
  rw [trn_mod _ _ _ hle] at h
  refine nu_apart hk hi h0 hle (h15 k hk) (Ne.symm hne) ?_
  refine (trn_inj _ _ _ _ _ ?_ f1 h).2
  rw [Nat.div_lt_iff_lt_mul (Nat.two_pow_pos _), ← Nat.pow_add, show lq ls i + (lq ls k - lq ls i) = lq ls k by omega]
  exact f2

end Go.Proofs.YtebfdoipogjpnaaGreat

/- inflate, plainly: numbers that are put one behind the other are read where they stand; symbols of a code likewise; tokens that are laid. -/
namespace Go.Proofs.YtebfdoipogjpnaaGreat

/-- What is put: numbers, and of how many bits each is. -/
abbrev Pt := List (Nat × Nat)
def szP : Pt → Nat
  | [] => 0
  | p :: r => p.2 + szP r
def nmP : Pt → Nat
  | [] => 0
  | p :: r => p.1 + 2 ^ p.2 * nmP r
def okP (P : Pt) : Prop := ∀ p ∈ P, p.1 < 2 ^ p.2
theorem okP.app {a b : Pt} (h : okP (a ++ b)) : okP a ∧ okP b := ⟨fun p hp => h p (List.mem_append_left _ hp), fun p hp => h p (List.mem_append_right _ hp)⟩
theorem okP_app {a b : Pt} (ha : okP a) (hb : okP b) : okP (a ++ b) := fun p hp => (List.mem_append.1 hp).elim (ha p) (hb p)
theorem okP_one {v k : Nat} (h : v < 2 ^ k) : okP [(v, k)] := fun p hp => by rw [List.mem_singleton.1 hp]; exact h
theorem szP_app : ∀ a b : Pt, szP (a ++ b) = szP a + szP b
  | [], b => by simp [szP]
  | p :: a, b => by rw [List.cons_append, szP, szP, szP_app a b]; omega
theorem nmP_app : ∀ a b : Pt, nmP (a ++ b) = nmP a + 2 ^ szP a * nmP b
  | [], b => by simp [nmP, szP]
  | p :: a, b => by
    rw [List.cons_append, nmP, nmP, nmP_app a b, szP, Nat.pow_add, Nat.mul_add, Nat.add_assoc, Nat.mul_assoc]
theorem nmP_lt : ∀ {P : Pt}, okP P → nmP P < 2 ^ szP P
  | [], _ => by simp [nmP, szP]
  | p :: r, h => by
    have h1 := h p List.mem_cons_self
    have h2 := nmP_lt (P := r) fun q hq => h q (List.mem_cons_of_mem _ hq)
    rw [nmP, szP, Nat.pow_add]
    calc p.1 + 2 ^ p.2 * nmP r < 2 ^ p.2 + 2 ^ p.2 * nmP r := by omega
      _ = 2 ^ p.2 * (nmP r + 1) := by rw [Nat.mul_add, Nat.mul_one, Nat.add_comm]
      _ ≤ 2 ^ p.2 * 2 ^ szP r := Nat.mul_le_mul_left _ h2
/-- As a writer has it. -/
theorem nmP_snoc (P : Pt) (v k : Nat) : nmP (P ++ [(v, k)]) = nmP P + v * 2 ^ szP P ∧ szP (P ++ [(v, k)]) = szP P + k := by
  refine ⟨?_, by rw [szP_app]; simp [szP]⟩
  rw [nmP_app, nmP, nmP, Nat.mul_zero, Nat.add_zero, Nat.mul_comm]

def bytP (P : Pt) : List Nat := byts (nmP P) ((szP P + 7) / 8)
theorem bytP_len (P : Pt) : (bytP P).length = (szP P + 7) / 8 := byts_len _ _
theorem bytP_num {P : Pt} (h : okP P) : numB (bytP P) = nmP P := by
  refine numB_byts _ _ (Nat.lt_of_lt_of_le (nmP_lt h) ?_)
  rw [p256]
  exact Nat.pow_le_pow_right (by omega) (by omega)

/-- What was put stands where it was put, whatever is behind. -/
theorem put_at {P p q : Pt} {v k : Nat} (h : okP P) (e : P = p ++ (v, k) :: q) (m : List Nat) : nb (bytP P ++ m) (szP p) k = v ∧ szP p + k ≤ 8 * (bytP P ++ m).length := by
  have hs : szP P = szP p + (k + szP q) := by rw [e, szP_app, szP]
  have hl : szP p + k ≤ 8 * (bytP P).length := by rw [bytP_len]; omega
  refine ⟨?_, by rw [List.length_append]; omega⟩
  rw [nb_ext _ _ _ _ hl]
  unfold nb
  rw [bytP_num h]
  subst e
  have hp := nmP_lt h.app.1
  have hv : v < 2 ^ k := h (v, k) (by simp)
  rw [nmP_app, nmP, Nat.add_mul_div_left _ _ (Nat.two_pow_pos _), Nat.div_eq_of_lt hp, Nat.zero_add, Nat.add_mul_mod_self_left, Nat.mod_eq_of_lt hv]

theorem nb_less (l : List Nat) (a : Nat) {t s : Nat} (h : t ≤ s) : nb l a t = nb l a s % 2 ^ t := by
  unfold nb
  rw [Nat.mod_mod_of_dvd _ (Nat.pow_dvd_pow 2 h)]

/-- The symbol of a repetition's length: the greatest one that may be; of its distance. -/
def lnF (n : Nat) : Nat → Nat
  | 0 => 0
  | k + 1 => if lnBase (257 + k) ≤ n ∧ (257 + k ≠ 285 ∨ n = 258) then 257 + k else lnF n k
def lnSym (n : Nat) : Nat := lnF n 29
def dsF (d : Nat) : Nat → Nat
  | 0 => 0
  | k + 1 => if dsBase k ≤ d then k else dsF d k
def dsSym (d : Nat) : Nat := dsF d 30
theorem lnSym_ok : ∀ n, n < 259 → 3 ≤ n → 257 ≤ lnSym n ∧ lnSym n ≤ 285 ∧ lnBase (lnSym n) ≤ n ∧ n - lnBase (lnSym n) < 2 ^ lnBits (lnSym n) := by decide +kernel
theorem ds_step : ∀ y, y < 30 → dsBase (y + 1) = dsBase y + 2 ^ dsBits y := by decide +kernel
theorem dsF_ok (d : Nat) : ∀ k, k ≤ 30 → d < dsBase k → 1 ≤ d → dsF d k < 30 ∧ dsBase (dsF d k) ≤ d ∧ d - dsBase (dsF d k) < 2 ^ dsBits (dsF d k)
  | 0, _, h, h1 => by simp [dsBase, stpBase] at h; omega
  | k + 1, hk, h, h1 => by
    rw [dsF]
    by_cases hd : dsBase k ≤ d
    · rw [if_pos hd]
      have := ds_step k (by omega)
      exact ⟨by omega, hd, by omega⟩
    · rw [if_neg hd]
      exact dsF_ok d k (by omega) (by omega) h1
theorem dsSym_ok {d : Nat} (h1 : 1 ≤ d) (h : d ≤ 32768) : dsSym d ≤ 29 ∧ dsBase (dsSym d) ≤ d ∧ d - dsBase (dsSym d) < 2 ^ dsBits (dsSym d) := by
  have e : dsBase 30 = 32769 := by decide
  obtain ⟨a, b⟩ := dsF_ok d 30 (Nat.le_refl _) (by omega) h1
  exact ⟨Nat.le_of_lt_succ a, b⟩

/-- These numbers stand there, one behind the other, from a on. -/
def AtP (l : List Nat) : Nat → Pt → Prop
  | _, [] => True
  | a, p :: q => nb l a p.2 = p.1 ∧ a + p.2 ≤ 8 * l.length ∧ AtP l (a + p.2) q
theorem AtP.app {l : List Nat} : ∀ {a : Nat} {x y : Pt}, AtP l a (x ++ y) → AtP l a x ∧ AtP l (a + szP x) y
  | _, [], _, h => ⟨trivial, h⟩
  | a, p :: x, y, h => by
    obtain ⟨h1, h2, h3⟩ := h
    obtain ⟨h4, h5⟩ := AtP.app (x := x) h3
    exact ⟨⟨h1, h2, h4⟩, by rw [szP, ← Nat.add_assoc]; exact h5⟩
theorem atP_of {P : Pt} (h : okP P) (m : List Nat) : ∀ {p q : Pt}, P = p ++ q → AtP (bytP P ++ m) (szP p) q
  | _, [], _ => trivial
  | p, (v, k) :: q, e => by
    obtain ⟨h1, h2⟩ := put_at h e m
    refine ⟨h1, h2, ?_⟩
    have := atP_of h m (p := p ++ [(v, k)]) (q := q) (by rw [e]; simp)
    rwa [(nmP_snoc p v k).2] at this
theorem atP_all {P : Pt} (h : okP P) (m : List Nat) : AtP (bytP P ++ m) 0 P := atP_of h m (p := []) rfl

theorem AtP.sy {ls l : List Nat} (hc : chk ls = 0) {x a : Nat} (hx : x < ls.length) (h0 : 0 < lq ls x) {q : Pt} (h : AtP l a ((cd (lq ls) ls.length x, lq ls x) :: q)) : Sy ls l a x 0 (lq ls x) ∧ AtP l (a + lq ls x) q := by
  obtain ⟨h1, h2, h3⟩ := h
  refine ⟨sy_of hc hx h0 rfl h1 (fun t t1 t2 i hi ⟨hi1, hi2⟩ => ?_) h2, h3⟩
  rw [nb_less _ _ (Nat.le_of_lt t1), h1] at hi2
  subst hi1
  exact cdn_apart hc hi hx t2 (by omega) (fun e => by subst e; omega) hi2

/-- A token: a byte, or so many bytes once more, the first of them so far ahead. -/
structure Tn where
  b : Nat
  n : Nat
  d : Nat
def Tn.put (A D : List Nat) (t : Tn) : Pt :=
  if t.n = 0 then [(cd (lq A) A.length t.b, lq A t.b)]
  else [(cd (lq A) A.length (lnSym t.n), lq A (lnSym t.n)), (t.n - lnBase (lnSym t.n), lnBits (lnSym t.n)), (cd (lq D) D.length (dsSym t.d), lq D (dsSym t.d)), (t.d - dsBase (dsSym t.d), dsBits (dsSym t.d))]
def Tn.tell (t : Tn) (o : List Nat) : List Nat := if t.n = 0 then o ++ [t.b] else ext t.d t.n o
/-- It may be told, and its symbols have codes. -/
def Tn.ok (A D : List Nat) (t : Tn) (o : List Nat) : Prop :=
  (t.n = 0 → t.b < 256 ∧ t.b < A.length ∧ 0 < lq A t.b) ∧
  (t.n ≠ 0 → 3 ≤ t.n ∧ t.n ≤ 258 ∧ 1 ≤ t.d ∧ t.d ≤ 32768 ∧ t.d ≤ o.length ∧ lnSym t.n < A.length ∧ 0 < lq A (lnSym t.n) ∧ dsSym t.d < D.length ∧ 0 < lq D (dsSym t.d))
theorem Tn.tell_len (t : Tn) (o : List Nat) : (t.tell o).length = o.length + (if t.n = 0 then 1 else t.n) := by
  unfold Tn.tell
  split
  · simp
  · rw [ext_len]

theorem tn_tk {A D l : List Nat} (hA : chk A = 0) (hD : chk D = 0) {t : Tn} {o : List Nat} (ht : t.ok A D o) {a : Nat} {q : Pt} (h : AtP l a (t.put A D ++ q)) (lim : Nat) :
    ((t.tell o).length ≤ lim → InfTk A D l lim a o (.go (a + szP (t.put A D)) (t.tell o))) ∧ (o.length ≤ lim → lim < (t.tell o).length → InfTk A D l lim a o (.no 81)) := by
  have hlen := t.tell_len o
  by_cases h0 : t.n = 0
  · obtain ⟨b1, b2, b3⟩ := ht.1 h0
    have e : t.put A D = [(cd (lq A) A.length t.b, lq A t.b)] := if_pos h0
    have e2 : t.tell o = o ++ [t.b] := if_pos h0
    rw [if_pos h0] at hlen
    rw [e] at h ⊢
    rw [hlen, e2]
    obtain ⟨s1, -⟩ := AtP.sy hA b2 b3 h
    refine ⟨fun hl => ?_, fun h1 h2 => .full _ _ s1 b1 (by omega)⟩
    have := InfTk.byte (A := A) (D := D) (l := l) (lim := lim) (a := a) (o := o) _ _ s1 b1 (by omega)
    simpa [szP] using this
  · obtain ⟨n1, n2, d1, d2, d3, x1, x2, y1, y2⟩ := ht.2 h0
    obtain ⟨s1, s2, s3, s4⟩ := lnSym_ok t.n (by omega) n1
    obtain ⟨r1, r2, r3⟩ := dsSym_ok d1 d2
    have e : t.put A D = [(cd (lq A) A.length (lnSym t.n), lq A (lnSym t.n)), (t.n - lnBase (lnSym t.n), lnBits (lnSym t.n)), (cd (lq D) D.length (dsSym t.d), lq D (dsSym t.d)), (t.d - dsBase (dsSym t.d), dsBits (dsSym t.d))] := if_neg h0
    have e2 : t.tell o = ext t.d t.n o := if_neg h0
    rw [if_neg h0] at hlen
    rw [e] at h ⊢
    rw [hlen, e2]
    obtain ⟨p1, h⟩ := AtP.sy hA x1 x2 h
    obtain ⟨p2, p3, h⟩ := h
    obtain ⟨p4, h⟩ := AtP.sy hD y1 y2 h
    obtain ⟨p5, p6, -⟩ := h
    simp only at p2 p3 p4 p5 p6
    have hd : dsBase (dsSym t.d) + nb l (a + lq A (lnSym t.n) + lnBits (lnSym t.n) + lq D (dsSym t.d)) (dsBits (dsSym t.d)) = t.d := by rw [p5]; omega
    have hn : lnBase (lnSym t.n) + nb l (a + lq A (lnSym t.n)) (lnBits (lnSym t.n)) = t.n := by rw [p2]; omega
    refine ⟨fun hl => ?_, fun h1 h2 => ?_⟩
    · have := InfRp.done (D := D) (l := l) (lim := lim) (a := a + lq A (lnSym t.n)) (x := lnSym t.n) (o := o) (by omega) p3 _ _ p4 r1 p6 (by rw [hd]; exact d3) (by rw [hn]; exact hl)
      rw [hd, hn] at this
      have h2 := InfTk.rep (A := A) (D := D) (l := l) (lim := lim) (a := a) (o := o) _ _ _ p1 (by omega) this
      rw [show a + szP [(cd (lq A) A.length (lnSym t.n), lq A (lnSym t.n)), (t.n - lnBase (lnSym t.n), lnBits (lnSym t.n)), (cd (lq D) D.length (dsSym t.d), lq D (dsSym t.d)), (t.d - dsBase (dsSym t.d), dsBits (dsSym t.d))] = a + lq A (lnSym t.n) + lnBits (lnSym t.n) + lq D (dsSym t.d) + dsBits (dsSym t.d) by simp only [szP]; omega]
      exact h2
    · exact .rep _ _ _ p1 (by omega) (.over (by omega) p3 _ _ p4 r1 p6 (by rw [hd]; exact d3) (by rw [hn]; omega))

def laidT (A D : List Nat) : List Tn → Pt
  | [] => []
  | t :: r => t.put A D ++ laidT A D r
def toldT : List Tn → List Nat → List Nat
  | [], o => o
  | t :: r, o => toldT r (t.tell o)
def mayT (A D : List Nat) : List Tn → List Nat → Prop
  | [], _ => True
  | t :: r, o => t.ok A D o ∧ mayT A D r (t.tell o)
theorem toldT_len : ∀ (ts : List Tn) (o : List Nat), o.length ≤ (toldT ts o).length
  | [], _ => Nat.le_refl _
  | t :: r, o => by
    have := toldT_len r (t.tell o)
    have := t.tell_len o
    rw [toldT]; omega

/-- The tokens of a block, up to its end. -/
theorem tn_toks {A D l : List Nat} (hA : chk A = 0) (hD : chk D = 0) (h6 : 256 < A.length) (h7 : 0 < lq A 256) (lim : Nat) : ∀ {ts : List Tn} {o : List Nat}, mayT A D ts o → ∀ {a : Nat} {q : Pt}, AtP l a (laidT A D ts ++ (cd (lq A) A.length 256, lq A 256) :: q) →
    ((toldT ts o).length ≤ lim → InfToks A D l lim a o (.go (a + szP (laidT A D ts) + lq A 256) (toldT ts o))) ∧ (o.length ≤ lim → lim < (toldT ts o).length → InfToks A D l lim a o (.no 81))
  | [], o, _, a, q, h => by
    obtain ⟨s1, -⟩ := AtP.sy hA h6 h7 h
    refine ⟨fun _ => ?_, fun h1 h2 => absurd h2 (by rw [toldT]; omega)⟩
    exact .fin _ _ _ (.fin _ s1)
  | t :: r, o, ht, a, q, h => by
    rw [laidT, List.append_assoc] at h
    obtain ⟨t1, t2⟩ := tn_tk hA hD ht.1 h lim
    obtain ⟨-, h3⟩ := h.app
    obtain ⟨r1, r2⟩ := tn_toks hA hD h6 h7 lim (ts := r) ht.2 h3
    have hle := toldT_len r (t.tell o)
    refine ⟨fun hl => ?_, fun h1 h2 => ?_⟩
    · rw [toldT] at hl
      have h4 := InfToks.more _ _ _ _ _ (t1 (by omega)) (r1 hl)
      rw [laidT, szP_app, toldT, ← Nat.add_assoc a]
      exact h4
    · rw [toldT] at h2
      by_cases h5 : (t.tell o).length ≤ lim
      · exact .more _ _ _ _ _ (t1 h5) (r2 h5 h2)
      · exact .no _ _ _ (t2 h1 (by omega))

end Go.Proofs.YtebfdoipogjpnaaGreat
