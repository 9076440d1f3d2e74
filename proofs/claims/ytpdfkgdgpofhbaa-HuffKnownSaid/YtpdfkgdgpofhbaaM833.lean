/- Several texts in one, each with its own head. -/
import Derived.Test.YtpdfkgdgpofhbaaM832
/- huff's New. -/
namespace Go.Proofs.Ytpdfkgdgpofhbaa
open Go.RowKit Go.Maps

theorem trn_lt : ∀ n r x, trn n r x < (r + 1) * 2 ^ n
  | 0, r, x => by simp [trn]
  | n + 1, r, x => by
    rw [trn]
    refine Nat.lt_of_lt_of_le (trn_lt n _ _) ?_
    rw [Nat.pow_succ, ← Nat.mul_assoc, Nat.mul_right_comm]
    exact Nat.mul_le_mul_right _ (by omega)
theorem trn_small {n x : Nat} (h : n ≤ 15) : trn n 0 x < 65536 := by
  have h1 := trn_lt n 0 x
  have h2 : 2 ^ n ≤ 2 ^ 15 := Nat.pow_le_pow_right (by decide) h
  have h3 : (2 : Nat) ^ 15 = 32768 := rfl
  omega

theorem MapAt.mono {w : World} {M n n' : Nat} {F : Nat × Nat → Option Nat} (h : MapAt w M n F) (hn : n ≤ n') : MapAt w M n' F := by
  obtain ⟨D, hD, hF⟩ := h
  exact ⟨D, hD.mono hn, hF⟩
theorem MapAt.lt {w : World} {M n : Nat} {F : Nat × Nat → Option Nat} (h : MapAt w M n F) : M < w.heap.size := by
  obtain ⟨D, hD, _⟩ := h
  exact hD.lt

/-- Symbol i is told before symbol k of length n + 1. -/
def Tld (f : Nat → Nat) (n k i : Nat) : Prop := 0 < f i ∧ (f i ≤ n ∨ (f i = n + 1 ∧ i < k))
theorem Tld.next {f : Nat → Nat} {N n i : Nat} (hi : i < N) : Tld f n N i ↔ Tld f (n + 1) 0 i := by unfold Tld; omega
theorem Tld.skip {f : Nat → Nat} {n k i : Nat} (h : f k ≠ n + 1) : Tld f n k i ↔ Tld f n (k + 1) i := by
  unfold Tld
  have : i = k → f i ≠ n + 1 := fun e => by subst e; exact h
  omega
theorem Tld.hand {f : Nat → Nat} {n k i : Nat} (h : f k = n + 1) : Tld f n (k + 1) i ↔ Tld f n k i ∨ i = k := by
  unfold Tld
  by_cases e : i = k
  · subst e; simp [h]
  · simp only [e, or_false]; omega

/-- No two symbols have one code. -/
def Apt (f : Nat → Nat) (N : Nat) : Prop := ∀ i j, i < N → j < N → 0 < f i → f i = f j → cd f N i = cd f N j → i = j

/-- What the map says, once the symbols ahead of (n, k) are told. -/
structure ToldF (f : Nat → Nat) (N n k : Nat) (F : Nat × Nat → Option Nat) : Prop where
  has : ∀ i, i < N → Tld f n k i → F (cd f N i, f i) = some i
  out : ∀ q x, F q = some x → x < N ∧ Tld f n k x ∧ q = (cd f N x, f x)
/-- The greatest length that is told. -/
structure ToldM (f : Nat → Nat) (N n k L : Nat) : Prop where
  ge : ∀ i, i < N → Tld f n k i → f i ≤ L
  le : L = 0 ∨ ∃ i, i < N ∧ Tld f n k i ∧ f i = L

theorem ToldF.congr {f : Nat → Nat} {N n k n' k' : Nat} {F : Nat × Nat → Option Nat} (h : ToldF f N n k F) (e : ∀ i, i < N → (Tld f n k i ↔ Tld f n' k' i)) : ToldF f N n' k' F :=
  ⟨fun i hi ht => h.has i hi ((e i hi).2 ht), fun q x hx => let ⟨a, b, c⟩ := h.out q x hx; ⟨a, (e x a).1 b, c⟩⟩
theorem ToldM.congr {f : Nat → Nat} {N n k n' k' L : Nat} (h : ToldM f N n k L) (e : ∀ i, i < N → (Tld f n k i ↔ Tld f n' k' i)) : ToldM f N n' k' L :=
  ⟨fun i hi ht => h.ge i hi ((e i hi).2 ht), h.le.imp id fun ⟨i, a, b, c⟩ => ⟨i, a, (e i a).1 b, c⟩⟩

theorem ToldF.hand {f : Nat → Nat} {N n k : Nat} {F : Nat × Nat → Option Nat} (h : ToldF f N n k F) (ha : Apt f N) (hk : k < N) (hl : f k = n + 1) : ToldF f N n (k + 1) (fun q => if q = (cd f N k, n + 1) then some k else F q) := by
  refine ⟨fun i hi ht => ?_, fun q x hx => ?_⟩
  · by_cases e : (cd f N i, f i) = (cd f N k, n + 1)
    · simp only [if_pos e, Option.some.injEq]
      simp only [Prod.mk.injEq] at e
      exact (ha i k hi hk ht.1 (by omega) e.1).symm
    · simp only [if_neg e]
      rcases (Tld.hand hl).1 ht with h1 | rfl
      · exact h.has i hi h1
      · exact absurd (by rw [hl]) e
  · by_cases e : q = (cd f N k, n + 1)
    · simp only [if_pos e, Option.some.injEq] at hx
      subst hx
      exact ⟨hk, (Tld.hand hl).2 (.inr rfl), by rw [hl]; exact e⟩
    · simp only [if_neg e] at hx
      obtain ⟨a, b, c⟩ := h.out q x hx
      exact ⟨a, (Tld.hand hl).2 (.inl b), c⟩
theorem ToldM.hand {f : Nat → Nat} {N n k L : Nat} (h : ToldM f N n k L) (hk : k < N) (hl : f k = n + 1) : ToldM f N n (k + 1) (max L (n + 1)) := by
  refine ⟨fun i hi ht => ?_, .inr ?_⟩
  · have := ht.2
    omega
  · rcases Nat.lt_or_ge (n + 1) L with h1 | h1
    · rcases h.le with h2 | ⟨i, a, b, c⟩
      · omega
      · exact ⟨i, a, (Tld.hand hl).2 (.inl b), by omega⟩
    · exact ⟨k, hk, (Tld.hand hl).2 (.inr rfl), by omega⟩

/-- What New holds while it is told. -/
structure NJ (w0 : World) (v : Value) (ls : List Nat) (M T X n k : Nat) (w : World) : Prop where
  tab : ∃ L F, TabAt w M T X (n * ls.length + k) L F ∧ ToldF (lq ls) ls.length n k F ∧ ToldM (lq ls) ls.length n k L
  lens : Row enc8 1 w v ls
  below : Below w0.heap.size w0 w
  gM : w0.heap.size ≤ M
  gT : w0.heap.size ≤ T

theorem NJ.hand (w0 : World) (v : Value) (ls : List Nat) (M T X n k : Nat) (w : World) (hN : ls.length ≤ 320) (ha : Apt (lq ls) ls.length) (hv0 : ∀ b, v.ownBlock = some b → b < w0.heap.size) (hMT : M ≠ T) (hMX : M ≠ X) (hTX : T ≠ X)
    (hn : n < 15) (hk : k < ls.length) (hl : lq ls k = n + 1) (h : NJ w0 v ls M T X n k w) :
    Calls Try.prog 27 #[.int .i64 (k : Int), .agg #[.int .u16 ((trn (n + 1) 0 (nx (lq ls) ls.length n k) : Nat) : Int), .int .u16 ((n + 1 : Nat) : Int)], .pointer (some ⟨X, 0, none⟩)] w fun e w' => e = .returned (.tuple #[]) ∧ NJ w0 v ls M T X n (k + 1) w' := by
  obtain ⟨L, F, h1, h2, h3⟩ := h.tab
  have hb : n * ls.length ≤ 14 * 320 := Nat.mul_le_mul (by omega) hN
  have e : trn (n + 1) 0 (nx (lq ls) ls.length n k) = cd (lq ls) ls.length k := by
    unfold cd
    rw [hl, Nat.add_sub_cancel]
  refine Calls.mono (new1_any M T X _ L _ (n + 1) k F w h1 (by unfold maxLen; omega) (trn_small (by omega)) (by omega) (by omega) hMT hMX hTX h1.map.lt) ?_
  rintro _ w' ⟨rfl, g1, ht⟩
  refine ⟨rfl, ⟨_, _, g1, by rw [e]; exact h2.hand ha hk hl, h3.hand hk hl⟩, h.lens.turns ht (fun b hb e => ?_), Below.trans h.below (ht.below h.below.size (fun i hi => ?_)), h.gM, h.gT⟩
  · have := hv0 b hb
    have := h.gM
    have := h.gT
    omega
  · have := h.gM
    have := h.gT
    omega

theorem NJ.skip (w0 : World) (v : Value) (ls : List Nat) (M T X n k : Nat) (w : World) (hl : lq ls k ≠ n + 1) (h : NJ w0 v ls M T X n k w) : NJ w0 v ls M T X n (k + 1) w := by
  obtain ⟨L, F, h1, h2, h3⟩ := h.tab
  exact ⟨⟨L, F, ⟨h1.box, h1.tab, h1.map.mono (by omega)⟩, h2.congr fun i _ => Tld.skip hl, h3.congr fun i _ => Tld.skip hl⟩, h.lens, h.below, h.gM, h.gT⟩

theorem NJ.next (w0 : World) (v : Value) (ls : List Nat) (M T X n : Nat) (w : World) (h : NJ w0 v ls M T X n ls.length w) : NJ w0 v ls M T X (n + 1) 0 w := by
  obtain ⟨L, F, h1, h2, h3⟩ := h.tab
  exact ⟨⟨L, F, ⟨h1.box, h1.tab, h1.map.mono (by rw [Nat.succ_mul]; omega)⟩, h2.congr fun i hi => Tld.next hi, h3.congr fun i hi => Tld.next hi⟩, h.lens, h.below, h.gM, h.gT⟩

end Go.Proofs.Ytpdfkgdgpofhbaa

/- Lengths that make a code give every symbol a code of its own (plain facts). -/
namespace Go.Proofs.Ytpdfkgdgpofhbaa

theorem trn_inj : ∀ n r x r' x', x < 2 ^ n → x' < 2 ^ n → trn n r x = trn n r' x' → r = r' ∧ x = x'
  | 0, r, x, r', x', h1, h2, h => by
    simp only [Nat.pow_zero] at h1 h2
    exact ⟨h, by omega⟩
  | n + 1, r, x, r', x', h1, h2, h => by
    rw [trn, trn] at h
    rw [Nat.pow_succ] at h1 h2
    obtain ⟨a, b⟩ := trn_inj n _ _ _ _ (by omega) (by omega) h
    omega

/-- The room that the codes of at most n bits take. -/
def rt (f : Nat → Nat) (n N : Nat) : Nat := sm N fun i => if 0 < f i ∧ f i ≤ n then 2 ^ (15 - f i) else 0
theorem rt_succ (f : Nat → Nat) (n N : Nat) : rt f n (N + 1) = rt f n N + (if 0 < f N ∧ f N ≤ n then 2 ^ (15 - f N) else 0) := rfl
theorem rt_next (f : Nat → Nat) (n : Nat) : ∀ N, rt f (n + 1) N = rt f n N + cn f (n + 1) N * 2 ^ (15 - (n + 1))
  | 0 => by simp [rt, cn, sm]
  | N + 1 => by
    rw [rt_succ, rt_succ, rt_next f n N, cn_succ, Nat.add_mul]
    by_cases h : f N = n + 1
    · rw [if_pos (by omega), if_neg (by omega), if_pos h, h]; omega
    · rw [if_neg h]
      by_cases h2 : 0 < f N ∧ f N ≤ n
      · rw [if_pos (by omega), if_pos h2]; omega
      · rw [if_neg (by omega), if_neg h2]; omega
theorem rt_le (f : Nat → Nat) (n : Nat) : ∀ N, rt f n N ≤ room N 15 f
  | 0 => by simp [rt, sm]
  | N + 1 => by
    have := rt_le f n N
    rw [rt_succ, room_succ]
    by_cases h : 0 < f N ∧ f N ≤ n
    · rw [if_pos h, if_pos h.1]; omega
    · rw [if_neg h]; omega
theorem rt_en (f : Nat → Nat) (N : Nat) : ∀ n, n ≤ 15 → en f N n * 2 ^ (15 - n) = rt f n N
  | 0, _ => by
    rw [en, Nat.zero_mul]
    have : ∀ N, rt f 0 N = 0 := fun N => by
      induction N with
      | zero => rfl
      | succ N ih => rw [rt_succ, ih, if_neg (by omega)]
    rw [this]
  | n + 1, h => by
    rw [en, Nat.add_mul, rt_next, ← rt_en f N n (by omega), show 15 - n = (15 - (n + 1)) + 1 by omega, Nat.pow_succ]
    congr 1
    rw [Nat.mul_assoc, Nat.mul_comm 2]
theorem en_fits {f : Nat → Nat} {N n : Nat} (hr : room N 15 f ≤ 32768) (hn : n ≤ 15) : en f N n ≤ 2 ^ n := by
  have h1 := rt_en f N n hn
  have h2 := rt_le f n N
  have h3 : 2 ^ n * 2 ^ (15 - n) = 32768 := by rw [← Nat.pow_add, show n + (15 - n) = 15 by omega]
  have h4 : 0 < 2 ^ (15 - n) := Nat.two_pow_pos _
  exact Nat.le_of_mul_le_mul_right (by omega) h4
theorem cn_lt {f : Nat → Nat} {n N k : Nat} (hk : k < N) (h : f k = n) : cn f n k < cn f n N := by
  have mono : ∀ a b, a ≤ b → cn f n a ≤ cn f n b := fun a b hab => by
    induction b with
    | zero => obtain rfl : a = 0 := by omega
              exact Nat.le_refl _
    | succ b ih =>
      rcases Nat.lt_or_ge a (b + 1) with h1 | h1
      · have := ih (by omega)
        rw [cn_succ]; omega
      · obtain rfl : a = b + 1 := by omega
        exact Nat.le_refl _
  have h1 := mono (k + 1) N hk
  rw [cn_succ, if_pos h] at h1
  omega
theorem nx_fits {f : Nat → Nat} {N n k : Nat} (hr : room N 15 f ≤ 32768) (hn : n < 15) (hk : k < N) (h : f k = n + 1) : nx f N n k < 2 ^ (n + 1) := by
  have h1 := en_fits (n := n + 1) hr hn
  have h2 := cn_lt hk h
  rw [en] at h1
  unfold nx
  omega

theorem apt_of {f : Nat → Nat} {N : Nat} (hr : room N 15 f ≤ 32768) (h15 : ∀ i, i < N → f i ≤ 15) : Apt f N := by
  intro i j hi hj h0 he hc
  unfold cd at hc
  obtain ⟨n, hn⟩ : ∃ n, f i = n + 1 := ⟨f i - 1, by omega⟩
  have hnj : f j = n + 1 := by omega
  have hb := h15 i hi
  rw [hn, hnj, Nat.add_sub_cancel] at hc
  have h1 := (trn_inj (n + 1) _ _ _ _ (nx_fits hr (by omega) hi hn) (nx_fits hr (by omega) hj hnj) hc).2
  unfold nx at h1
  rcases Nat.lt_trichotomy i j with h2 | h2 | h2
  · have := cn_lt (f := f) (n := n + 1) h2 hn; omega
  · exact h2
  · have := cn_lt (f := f) (n := n + 1) h2 hnj; omega

theorem room_of_chk {ls : List Nat} (h : chk ls = 0) : room ls.length 15 (lq ls) ≤ 32768 := by
  obtain ⟨-, -, h3⟩ := chk_zero h
  rcases h3 with h3 | h3 | h3
  · have : ∀ k, many k (lq ls) = 0 → room k 15 (lq ls) = 0 := fun k => by
      induction k with
      | zero => intro _; rfl
      | succ k ih =>
        intro hk
        rw [many_succ] at hk
        rw [room_succ, ih (by omega)]
        split at hk
        · omega
        · rename_i hh; rw [if_neg hh]
    rw [this _ h3]; omega
  · omega
  · omega

theorem apt_chk {ls : List Nat} (h : chk ls = 0) : Apt (lq ls) ls.length := apt_of (room_of_chk h) (chk_zero h).2.1

end Go.Proofs.Ytpdfkgdgpofhbaa
