/- Tokens of bytes that are written out; tokens of what stands twice, of a row of one byte; no token could be a longer one (plain). Nothing here speaks of a program. -/
import Derived.Test.YtngiiacibbgiiaaLzX
namespace Go.Proofs.Ytngiiacibbgiiaa

def runC (f : Nat → Nat) (a d : Nat) : Nat → Nat → Nat
  | 0, n => n
  | k + 1, n => if f (a + n) = f (a + n - d) then runC f a d k (n + 1) else n
theorem runC_is (f : Nat → Nat) (a d : Nat) : ∀ (k n : Nat), (∀ j, j < n → f (a + j) = f (a + j - d)) → IsRun f a d (n + k) (runC f a d k n)
  | 0, n, h => ⟨by simp [runC], h, fun h => by simp [runC] at h⟩
  | k + 1, n, h => by
    rw [runC]
    split
    · rename_i e
      have := runC_is f a d k (n + 1) (fun j hj => by
        by_cases e' : j = n
        · rw [e']; exact e
        · exact h j (by omega))
      rwa [show n + 1 + k = n + (k + 1) by omega] at this
    · rename_i e
      exact ⟨by omega, h, fun _ => e⟩
def bestC (f : Nat → Nat) (a m : Nat) : Nat → Nat × Nat
  | 0 => (0, 0)
  | d + 1 => if (bestC f a m d).1 < runC f a (d + 1) m 0 then (runC f a (d + 1) m 0, d + 1) else bestC f a m d
theorem bestC_is (f : Nat → Nat) (a m : Nat) : ∀ d, Scan f a m (d + 1) (bestC f a m d).1 (bestC f a m d).2
  | 0 => Scan.start f a m
  | d + 1 => by
    have h := bestC_is f a m d
    have hr := runC_is f a (d + 1) m 0 (fun j h => by omega)
    rw [Nat.zero_add] at hr
    rw [bestC]
    split
    · rename_i e; exact h.more (by omega) hr e
    · rename_i e; exact h.less hr (by omega)
def tokC (f : Nat → Nat) (N a : Nat) : Tk := if 3 ≤ (bestC f a (mo N a) (min 32768 a)).1 then ⟨0, ((bestC f a (mo N a) (min 32768 a)).1 : Nat), ((bestC f a (mo N a) (min 32768 a)).2 : Nat)⟩ else ⟨f a, 0, 0⟩
theorem tokC_is (f : Nat → Nat) (N a : Nat) : IsTok f N a (tokC f N a) := by
  have h := bestC_is f a (mo N a) (min 32768 a)
  unfold tokC
  split
  · rename_i e; exact h.rep (fun d' h1 h2 => by omega) (by omega) e
  · rename_i e; exact h.byte (fun d' h1 h2 => by omega) (by omega)
def toksC (f : Nat → Nat) (N : Nat) : Nat → Nat → List Tk
  | 0, _ => []
  | k + 1, a => if a < N then tokC f N a :: toksC f N k (a + (tokC f N a).size) else []
theorem toksC_is (f : Nat → Nat) (N : Nat) : ∀ k a, a ≤ N → N ≤ a + k → Toks f N a (toksC f N k a)
  | 0, a, h1, h2 => by
    obtain rfl : a = N := by omega
    exact .nil
  | k + 1, a, h1, h2 => by
    rw [toksC]
    split
    · rename_i e
      have ht := tokC_is f N a
      exact .cons e ht (toksC_is f N k _ (ht.fits e) (by have := ht.size_pos; omega))
    · rename_i e
      obtain rfl : a = N := by omega
      exact .nil
theorem toks_eq {l : List Nat} {ts : List Tk} (h : Toks (fb l) l.length 0 ts) : ts = toksC (fb l) l.length l.length 0 :=
  h.uniq (toksC_is _ _ _ _ (by omega) (by omega))

/-- What stands twice. -/
theorem tok_twice {f : Nat → Nat} {n a : Nat} {t : Tk} (h : IsTok f (2 * n) a t) (h0 : t.n = 0) (ha : n ≤ a) (haN : a < 2 * n) (hn : n ≤ 32768) (hf : ∀ i, i < n → f (i + n) = f i) : 2 * n ≤ a + 2 := by
  rcases h with ⟨rfl, h⟩ | ⟨m, d, rfl, h1, -⟩
  · have hr : IsRun f a n (mo (2 * n) a) (mo (2 * n) a) := ⟨Nat.le_refl _, fun j hj => by
      have hm : mo (2 * n) a ≤ 2 * n - a := Nat.min_le_right _ _
      have := hf (a + j - n) (by omega)
      rwa [show a + j - n + n = a + j by omega] at this, fun h => by omega⟩
    have := h n _ (by omega) hn ha hr
    unfold mo at this
    omega
  · simp at h0; omega
/-- A row of one byte. -/
theorem tok_row {f : Nat → Nat} {N a c : Nat} {t : Tk} (h : IsTok f N a t) (ha : a < N) (hf : ∀ i, i < N → f i = c) : t = if 0 < a ∧ 3 ≤ N - a then ⟨0, ((min (N - a) 258 : Nat) : Int), 1⟩ else ⟨c, 0, 0⟩ := by
  have hm : mo N a ≤ N - a := Nat.min_le_right _ _
  split
  · rename_i e
    refine h.uniq (.inr ⟨min (N - a) 258, 1, rfl, by omega, Nat.le_refl _, by omega, by omega, ⟨by unfold mo; omega, fun j hj => ?_, fun h => ?_⟩, fun d' n' h1 h2 h3 h4 => ⟨?_, fun h => by omega⟩⟩)
    · rw [hf _ (by omega), hf _ (by omega)]
    · unfold mo at h; omega
    · have := h4.le; unfold mo at this; omega
  · rename_i e
    rw [← hf a ha]
    by_cases e' : 0 < a
    · exact h.uniq (IsTok.short (by unfold mo; omega))
    · exact h.uniq (.inl ⟨rfl, fun d n h1 h2 h3 => by omega⟩)
/-- No token could be a longer one. -/
theorem IsTok.longest {f : Nat → Nat} {N a : Nat} {t : Tk} (h : IsTok f N a t) (ha : a < N) :
    (0 < t.n → t.d ≤ (a : Int)) ∧ (0 < t.n → t.n < 258 → a + t.size < N → f (a + t.size) ≠ f (a + t.size - t.d.toNat)) ∧
    ∀ d k : Nat, 1 ≤ d → d ≤ 32768 → d ≤ a → (t.n = 0 ∨ (d : Int) < t.d) → IsRun f a d (mo N a) k → 3 ≤ k → ¬ t.n ≤ (k : Int) := by
  rcases h with ⟨rfl, h⟩ | ⟨n, d, rfl, h1, h2, h3, h4, h5, h6⟩
  · refine ⟨fun h => absurd h (by simp), fun h => absurd h (by simp), fun d k k1 k2 k3 _ k5 k6 => ?_⟩
    have := h d k k1 k2 k3 k5
    omega
  · have hs : Tk.size ⟨0, (n : Int), (d : Int)⟩ = n := by simp [Tk.size]; omega
    rw [hs]
    refine ⟨fun _ => by simpa using h4, fun _ g1 g2 => ?_, fun d' k k1 k2 k3 k4 k5 k6 => ?_⟩
    · have := h5.ne (by unfold mo; simp at g1; omega)
      simpa using this
    · have := (h6 d' k k1 k2 k3 k5).2 (by rcases k4 with k4 | k4 <;> simp at k4 <;> omega)
      simp; omega
theorem IsTok.len {f : Nat → Nat} {N a : Nat} {t : Tk} (h : IsTok f N a t) : t.n = 0 ∨ (3 ≤ t.n ∧ t.n ≤ 258) := by
  rcases h with ⟨rfl, h⟩ | ⟨n, d, rfl, h1, h2, h3, h4, h5, h6⟩
  · exact .inl rfl
  · have := h5.le
    unfold mo at this
    exact .inr (by simp; omega)

/-- So many repetitions of the one byte ahead. -/
theorem xp_reps (c : Nat) : ∀ k o, 1 ≤ o → o + 258 * k ≤ 524288 → xp (List.replicate k ⟨0, 258, 1⟩) (List.replicate o c) = (List.replicate (o + 258 * k) c, 0)
  | 0, o, _, _ => rfl
  | k + 1, o, h0, h => by
    have he : tkErr ⟨0, 258, 1⟩ (List.replicate o c).length = 0 := by
      unfold tkErr
      rw [if_neg (by simp [Tk.okB]; omega), if_neg (by simp [Tk.size]; omega)]
    have key : ∀ n o, 1 ≤ o → rpt 1 n (List.replicate o c) = List.replicate (o + n) c := by
      intro n
      induction n with
      | zero => intro o _; rfl
      | succ n ih =>
        intro o ho
        have e : (List.replicate o c).getD ((List.replicate o c).length - 1) 0 = c := by
          rw [List.getD_eq_getElem?_getD, List.getElem?_replicate, List.length_replicate, if_pos (by omega)]; rfl
        rw [rpt, e, ← List.replicate_succ', ih _ (by omega), show o + 1 + n = o + (n + 1) by omega]
    have ht : tellT ⟨0, 258, 1⟩ (List.replicate o c) = List.replicate (o + 258) c := by
      unfold tellT
      rw [if_neg (by decide)]
      exact key 258 o h0
    rw [List.replicate_succ, xp_cons_ok he, ht, xp_reps c k (o + 258) (by omega) (by omega), show o + 258 + 258 * k = o + 258 * (k + 1) by omega]

end Go.Proofs.Ytngiiacibbgiiaa
