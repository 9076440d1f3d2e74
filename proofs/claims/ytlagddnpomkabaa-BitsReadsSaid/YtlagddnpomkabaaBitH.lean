/- bits: acts of a writer or a reader: what they come to, and one act done. -/
import Derived.Test.YtlagddnpomkabaaBitG
namespace Go.Proofs.Ytlagddnpomkabaa
open Go.RowKit

/-- An act: a number of so many bits, or an alignment. -/
structure BAct where
  v : Nat
  n : Int
  al : Bool
instance : Inhabited BAct := ⟨⟨0, 0, false⟩⟩

def encA3 (a : BAct) : List Value := [.int .u32 (a.v : Int), .int .i64 a.n, .bool a.al]
theorem encA3_len (a : BAct) : (encA3 a).length = 3 := rfl

/-- A slice of acts that reads so. -/
abbrev RwA (w : World) (v : Value) (l : List BAct) : Prop := RwG encA3 3 w v l

/-- Where the act i lies. -/
structure ActLies (W : World) (g o : Nat) (a : BAct) : Prop where
  c0 : W.cell? ⟨g, o, none⟩ = some (.int .u32 (a.v : Int))
  c1 : W.cell? ⟨g, o + 1, none⟩ = some (.int .i64 a.n)
  c2 : W.cell? ⟨g, o + 2, none⟩ = some (.bool a.al)

theorem RwA.cells {W : World} {v : Value} {l : List BAct} (h : RwA W v l) : ∃ p c, v = .slice p l.length c ∧ l.length ≤ c ∧ c ≤ maxLen ∧ ∀ i (hi : i < l.length), ∃ g off, p = some ⟨g, off, none⟩ ∧ ActLies W g (off + i * 3) l[i] := by
  obtain ⟨⟨p, c, e, h1, h2, h3⟩, -⟩ := h
  refine ⟨p, c, e, h1, h2, fun i hi => ?_⟩
  rcases h3 with ⟨-, rfl⟩ | ⟨g, off, rfl, -, h4⟩
  · simp at hi
  · exact ⟨g, off, rfl, h4 i _ (List.getElem?_eq_getElem hi) 0 _ rfl, h4 i _ (List.getElem?_eq_getElem hi) 1 _ rfl, h4 i _ (List.getElem?_eq_getElem hi) 2 _ rfl⟩

/-- May it be put? -/
def mayB (v : Nat) (n : Int) : Bool := decide ((0 ≤ n ∧ n ≤ 24) ∧ v < 2 ^ n.toNat)

theorem mayB_true {v : Nat} {n : Int} (h : mayB v n = true) : ∃ k : Nat, n = (k : Int) ∧ k ≤ 24 ∧ v < 2 ^ k := by
  simp only [mayB, decide_eq_true_eq] at h
  obtain ⟨k, rfl⟩ := Int.eq_ofNat_of_zero_le h.1.1
  exact ⟨k, rfl, by omega, by simpa using h.2⟩
theorem mayB_false {v : Nat} {n : Int} (h : mayB v n = false) : (n < 0 ∨ 24 < n) ∨ ∃ k : Nat, n = (k : Int) ∧ k ≤ 24 ∧ 2 ^ k ≤ v := by
  by_cases h1 : n < 0 ∨ 24 < n
  · exact .inl h1
  · right
    obtain ⟨k, rfl⟩ := Int.eq_ofNat_of_zero_le (show 0 ≤ n by omega)
    refine ⟨k, rfl, by omega, ?_⟩
    by_cases h2 : v < 2 ^ k
    · exfalso
      have : mayB v (k : Int) = true := by
        simp only [mayB, decide_eq_true_eq]
        exact ⟨by omega, by simpa using h2⟩
      rw [h] at this; cases this
    · omega
theorem mayB_k {v k : Nat} (hk : k ≤ 24) (hv : v < 2 ^ k) : mayB v (k : Int) = true := by
  simp only [mayB, decide_eq_true_eq]
  exact ⟨by omega, by simpa using hv⟩

/-- The number and the place behind an act. -/
def posS (s : Nat × Nat) (a : BAct) : Nat × Nat :=
  if a.al then (s.1, alignN s.2) else if mayB a.v a.n then (s.1 + a.v * 2 ^ s.2, s.2 + a.n.toNat) else s
def stAt (l : List BAct) : Nat × Nat := l.foldl posS (0, 0)
theorem stAt_snoc (l : List BAct) (a : BAct) : stAt (l ++ [a]) = posS (stAt l) a := by simp [stAt]
theorem stAt_succ (l : List BAct) (k : Nat) (h : k < l.length) : stAt (l.take (k + 1)) = posS (stAt (l.take k)) l[k] := by
  rw [List.take_succ_eq_append_getElem h, stAt_snoc]

theorem posS_le (s : Nat × Nat) (a : BAct) : s.2 ≤ (posS s a).2 ∧ (posS s a).2 ≤ s.2 + 24 := by
  unfold posS
  split
  · simp only [alignN]; omega
  · split
    · rename_i h
      obtain ⟨k, e, hk, -⟩ := mayB_true h
      simp only [e]; omega
    · omega
theorem stAt_le (l : List BAct) : ∀ k, k ≤ l.length → (stAt (l.take k)).2 ≤ 24 * k
  | 0, _ => by simp [stAt]
  | k + 1, h => by
    have h1 := stAt_le l k (by omega)
    have h2 := (posS_le (stAt (l.take k)) l[k]).2
    rw [stAt_succ l k (by omega)]
    omega

/-- What comes behind leaves what was laid. -/
theorem foldl_more : ∀ (l : List BAct) (s : Nat × Nat), ∃ M, (l.foldl posS s).1 = s.1 + 2 ^ s.2 * M
  | [], s => ⟨0, by simp⟩
  | a :: r, s => by
    obtain ⟨M, hM⟩ := foldl_more r (posS s a)
    rw [List.foldl_cons, hM]
    have hle := (posS_le s a).1
    obtain ⟨d, hd⟩ := Nat.exists_eq_add_of_le hle
    unfold posS at hd ⊢
    split
    · rename_i h1
      rw [if_pos h1] at hd
      simp only at hd ⊢
      exact ⟨2 ^ d * M, by rw [hd, Nat.pow_add, Nat.mul_assoc]⟩
    · rename_i h1
      rw [if_neg h1] at hd
      split
      · rename_i h2
        rw [if_pos h2] at hd
        simp only at hd ⊢
        exact ⟨a.v + 2 ^ d * M, by rw [hd, Nat.pow_add, Nat.mul_add, Nat.mul_comm a.v, Nat.mul_assoc, Nat.add_assoc]⟩
      · exact ⟨M, rfl⟩

theorem foldl_mono : ∀ (l : List BAct) (s : Nat × Nat), ∃ d, (l.foldl posS s).2 = s.2 + d
  | [], s => ⟨0, rfl⟩
  | a :: r, s => by
    obtain ⟨d, hd⟩ := foldl_mono r (posS s a)
    have hle := (posS_le s a).1
    exact ⟨(posS s a).2 - s.2 + d, by rw [List.foldl_cons, hd]; omega⟩

theorem stAt_read (l : List BAct) (i : Nat) (hi : i < l.length) (hlt : (stAt (l.take i)).1 < 2 ^ (stAt (l.take i)).2) (k : Nat) (ha : l[i].al = false) (hn : l[i].n = (k : Int)) (hk : k ≤ 24) (hv : l[i].v < 2 ^ k) :
    (stAt l).1 / 2 ^ (stAt (l.take i)).2 % 2 ^ k = l[i].v := by
  have hm : mayB l[i].v l[i].n = true := by rw [hn]; exact mayB_k hk hv
  obtain ⟨M, hM⟩ := foldl_more (l.drop (i + 1)) (stAt (l.take (i + 1)))
  have hall : (l.drop (i + 1)).foldl posS (stAt (l.take (i + 1))) = stAt l := by
    unfold stAt
    rw [← List.foldl_append, List.take_append_drop]
  rw [hall, stAt_succ l i hi] at hM
  have hp : posS (stAt (l.take i)) l[i] = ((stAt (l.take i)).1 + l[i].v * 2 ^ (stAt (l.take i)).2, (stAt (l.take i)).2 + k) := by
    unfold posS
    rw [if_neg (by rw [ha]; simp), if_pos hm, hn]
    simp
  rw [hp] at hM
  simp only at hM
  generalize (stAt (l.take i)) = s at *
  rw [hM, Nat.pow_add, Nat.mul_assoc, Nat.add_assoc, Nat.mul_comm l[i].v, ← Nat.mul_add, Nat.add_mul_div_left _ _ (pow_pos' _), Nat.div_eq_of_lt hlt, Nat.zero_add, Nat.add_mul_mod_self_left, Nat.mod_eq_of_lt hv]

theorem posS_lt {s : Nat × Nat} (a : BAct) (h : s.1 < 2 ^ s.2) : (posS s a).1 < 2 ^ (posS s a).2 := by
  unfold posS
  split
  · exact Nat.lt_of_lt_of_le h (Nat.pow_le_pow_right (by decide) (alignN_le _))
  · split
    · rename_i hm
      obtain ⟨k, e, hk, hv⟩ := mayB_true hm
      simp only [e, Int.toNat_natCast]
      have : (a.v + 1) * 2 ^ s.2 ≤ 2 ^ k * 2 ^ s.2 := Nat.mul_le_mul_right _ hv
      rw [Nat.pow_add, Nat.mul_comm (2 ^ s.2)]
      rw [Nat.add_mul] at this
      omega
    · exact h
theorem stAt_lt (l : List BAct) : ∀ k, k ≤ l.length → (stAt (l.take k)).1 < 2 ^ (stAt (l.take k)).2
  | 0, _ => by simp [stAt]
  | k + 1, h => by
    rw [stAt_succ l k (by omega)]
    exact posS_lt _ (stAt_lt l k (by omega))

theorem posS_al {s : Nat × Nat} {a : BAct} (h : a.al = true) : posS s a = (s.1, alignN s.2) := by unfold posS; rw [if_pos h]
theorem posS_may {s : Nat × Nat} {a : BAct} {k : Nat} (h : a.al = false) (hn : a.n = (k : Int)) (hm : mayB a.v a.n = true) : posS s a = (s.1 + a.v * 2 ^ s.2, s.2 + k) := by
  unfold posS; rw [if_neg (by rw [h]; simp), if_pos hm, hn]; simp
theorem posS_not {s : Nat × Nat} {a : BAct} (h : a.al = false) (hm : mayB a.v a.n = false) : posS s a = s := by
  unfold posS; rw [if_neg (by rw [h]; simp), if_neg (by rw [hm]; simp)]

/-- Put of a number that may not be. -/
theorem put_not (B v : Nat) (n : Int) (w : World) (hv : v < 4294967296) (h : mayB v n = false) :
    Calls Try.prog 13 #[.pointer (some ⟨B, 0, none⟩), .int .u32 (v : Int), .int .i64 n] w fun e w' => e = .returned (.int .i64 1) ∧ w' = w := by
  rcases mayB_false h with h | ⟨k, rfl, hk, hw⟩
  · exact put_arg B v n w h
  · exact put_wide B v k w hv hk hw

theorem may_true (v : Nat) (n : Int) (w : World) (hv : v < 4294967296) (h : mayB v n = true) :
    Calls Try.prog 26 #[.int .u32 (v : Int), .int .i64 n] w fun e w' => e = .returned (.bool true) ∧ w' = w := by
  obtain ⟨k, rfl, hk, hw⟩ := mayB_true h
  have := may_any v k w hv hk
  rw [show decide (v < 2 ^ k) = true by simpa using hw] at this
  exact this
theorem may_false (v : Nat) (n : Int) (w : World) (hv : v < 4294967296) (h : mayB v n = false) :
    Calls Try.prog 26 #[.int .u32 (v : Int), .int .i64 n] w fun e w' => e = .returned (.bool false) ∧ w' = w := by
  rcases mayB_false h with h | ⟨k, rfl, hk, hw⟩
  · exact may_no v n w h
  · have := may_any v k w hv hk
    rw [show decide (v < 2 ^ k) = false by simpa using hw] at this
    exact this

end Go.Proofs.Ytlagddnpomkabaa
