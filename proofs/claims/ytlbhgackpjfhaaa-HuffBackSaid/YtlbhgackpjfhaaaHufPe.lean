/- Lengths that are best for frequencies make a code; rows of codes, one behind the other, are read as they were (plain). -/
import Derived.Test.YtlbhgackpjfhaaaHufPa
import Derived.Test.YtlbhgackpjfhaaaHufT
namespace Go.Proofs.Ytlbhgackpjfhaaa
open Go.RowKit

/-- Lengths as a list. -/
def gl (g : Nat → Nat) (N : Nat) : List Nat := (List.range N).map g
theorem gl_len (g : Nat → Nat) (N : Nat) : (gl g N).length = N := by simp [gl]
theorem gl_at (g : Nat → Nat) {N i : Nat} (hi : i < N) : lq (gl g N) i = g i := by
  unfold lq gl
  rw [List.getD_eq_getElem?_getD, List.getElem?_map, List.getElem?_range hi]; rfl
theorem gl_row (g : Nat → Nat) (N : Nat) : lensRow g N = (gl g N).map u8v := by simp [lensRow, gl]

theorem many_same {f g : Nat → Nat} : ∀ {n : Nat}, (∀ i, i < n → (0 < f i ↔ 0 < g i)) → many n f = many n g
  | 0, _ => rfl
  | n + 1, h => by
    rw [many_succ, many_succ, many_same (fun i hi => h i (by omega))]
    have := h n (by omega)
    by_cases h0 : 0 < f n
    · rw [if_pos h0, if_pos (this.1 h0)]
    · rw [if_neg h0, if_neg (fun h => h0 (this.2 h))]
theorem room_same {L : Nat} {f g : Nat → Nat} : ∀ {n : Nat}, (∀ i, i < n → f i = g i) → room n L f = room n L g
  | 0, _ => rfl
  | n + 1, h => by rw [room_succ, room_succ, room_same (fun i hi => h i (by omega)), h n (by omega)]
theorem room_one {f : Nat → Nat} : ∀ {n : Nat}, (∀ i, i < n → f i ≤ 1) → room n 15 f = many n f * 16384
  | 0, _ => by simp [room, many, sm]
  | n + 1, h => by
    rw [room_succ, many_succ, room_one (fun i hi => h i (by omega)), Nat.add_mul]
    have := h n (by omega)
    by_cases h0 : 0 < f n
    · have e : f n = 1 := by omega
      have e2 : 2 ^ (15 - f n) = 16384 := by rw [e]
      rw [if_pos h0, if_pos h0, e2]
    · rw [if_neg h0, if_neg h0, Nat.zero_mul]
theorem room_up {L : Nat} (hL : L ≤ 15) {l : Nat → Nat} : ∀ {n : Nat}, (∀ i, i < n → l i ≤ L) → room n 15 l = room n L l * 2 ^ (15 - L)
  | 0, _ => by simp [sm, room]
  | n + 1, h => by
    have h1 := room_up hL (n := n) (fun i hi => h i (by omega))
    have h2 := h n (by omega)
    rw [room_succ, room_succ, h1, Nat.add_mul]
    by_cases h0 : 0 < l n
    · rw [if_pos h0, if_pos h0, ← Nat.pow_add, show L - l n + (15 - L) = 15 - l n by omega]
    · rw [if_neg h0, if_neg h0, Nat.zero_mul]

theorem lens_chk {fs : List Int} {L : Nat} {g : Nat → Nat} (h : LensOk fs L g) (hL : L ≤ 15) (hN : fs.length ≤ 320) : chk (gl g fs.length) = 0 := by
  have hle : ∀ i, i < fs.length → g i ≤ L := fun i hi => (h.le i hi).1
  have hm : many fs.length (lq (gl g fs.length)) = many fs.length (fq fs) := by
    refine many_same fun i hi => ?_
    rw [gl_at g hi]; exact (h.le i hi).2
  have hr : room fs.length 15 (lq (gl g fs.length)) = room fs.length 15 g := room_same fun i hi => gl_at g hi
  rw [chk_rest (by rw [gl_len]; exact hN) (fun i hi => by rw [gl_len] at hi; rw [gl_at g hi]; have := hle i hi; omega), gl_len, hm, hr, if_pos]
  by_cases h0 : many fs.length (fq fs) = 0
  · exact .inl h0
  by_cases h1 : many fs.length (fq fs) = 1
  · refine .inr (.inr ⟨h1, ?_⟩)
    rw [room_one (h.one h1), many_same (f := g) (g := fq fs) (fun i hi => (h.le i hi).2), h1]
  · refine .inr (.inl ?_)
    rw [room_up hL hle, h.code (by omega), ← Nat.pow_add, show L + (15 - L) = 15 by omega]

theorem cd_lt (f : Nat → Nat) (N i : Nat) : cd f N i < 2 ^ f i := by
  have h := numL_lt (rowOf f N i)
  rwa [numL_rowOf, rowOf_len] at h

/-- No code begins with another one, as numbers whose first bit is lowest. -/
theorem cd_apart {ls : List Nat} (hc : chk ls = 0) {i k : Nat} (hi : i < ls.length) (hk : k < ls.length) (h0 : 0 < lq ls i) (hle : lq ls i ≤ lq ls k) (hne : i ≠ k) : cd (lq ls) ls.length k % 2 ^ lq ls i ≠ cd (lq ls) ls.length i := by
  intro h
  refine row_apart (room_of_chk hc) hk hi h0 hle ((chk_zero hc).2.1 k hk) (Ne.symm hne) (numL_inj ?_ ?_)
  · rw [List.length_take, rowOf_len, rowOf_len]; omega
  · rw [numL_take', numL_rowOf, numL_rowOf]; exact h

/-- The codes of symbols, one behind the other. -/
def rws (f : Nat → Nat) (N : Nat) (l : List Nat) : List Bool := l.flatMap (rowOf f N)
theorem rws_snoc (f : Nat → Nat) (N : Nat) (l : List Nat) (s : Nat) : rws f N (l ++ [s]) = rws f N l ++ rowOf f N s := by simp [rws]
theorem rws_num (f : Nat → Nat) (N : Nat) (l : List Nat) (s : Nat) : numL (rws f N (l ++ [s])) = numL (rws f N l) + cd f N s * 2 ^ (rws f N l).length := by
  rw [rws_snoc, numL_append, numL_rowOf, Nat.mul_comm]
theorem rws_len (f : Nat → Nat) (N : Nat) (l : List Nat) (s : Nat) : (rws f N (l ++ [s])).length = (rws f N l).length + f s := by
  rw [rws_snoc, List.length_append, rowOf_len]
theorem rws_le {f : Nat → Nat} {N : Nat} : ∀ {l : List Nat}, (∀ s ∈ l, f s ≤ 15) → (rws f N l).length ≤ 15 * l.length
  | [], _ => by simp [rws]
  | s :: r, h => by
    have h1 := rws_le (f := f) (N := N) (l := r) (fun x hx => h x (by simp [hx]))
    have h2 := h s (by simp)
    unfold rws at h1 ⊢
    rw [List.flatMap_cons, List.length_append, rowOf_len, List.length_cons]
    omega
theorem rws_at (f : Nat → Nat) (N : Nat) {l : List Nat} {k : Nat} (hk : k < l.length) : sg (rws f N l) (rws f N (l.take k)).length (f l[k]) = rowOf f N l[k] ∧ (rws f N (l.take k)).length + f l[k] ≤ (rws f N l).length ∧ (rws f N (l.take (k + 1))).length = (rws f N (l.take k)).length + f l[k] := by
  have e : rws f N l = rws f N (l.take k) ++ (rowOf f N l[k] ++ rws f N (l.drop (k + 1))) := by
    have h1 : l = l.take k ++ l[k] :: l.drop (k + 1) := by rw [← List.drop_eq_getElem_cons hk, List.take_append_drop]
    exact (congrArg (rws f N) h1).trans (by simp only [rws, List.flatMap_append, List.flatMap_cons])
  refine ⟨?_, ?_, ?_⟩
  · unfold sg
    rw [e, List.drop_left, List.take_left' (rowOf_len f N l[k])]
  · rw [e, List.length_append, List.length_append, rowOf_len]; omega
  · rw [List.take_succ_eq_append_getElem hk, rws_len]

theorem told_num {f : Nat → Nat} {N : Nat} {F : Nat × Nat → Option Nat} (hF : ToldF f N 15 0 F) (s : List Bool) {i : Nat} (h15 : ∀ i, i < N → f i ≤ 15) : F (numL s, s.length) = some i ↔ i < N ∧ 0 < f i ∧ rowOf f N i = s := by
  constructor
  · intro hs
    obtain ⟨h1, h2, h3⟩ := hF.out _ _ hs
    injection h3 with h3 h4
    exact ⟨h1, h2.1, numL_inj (by rw [rowOf_len, h4]) (by rw [numL_rowOf, h3])⟩
  · rintro ⟨h1, h2, rfl⟩
    rw [numL_rowOf, rowOf_len]
    exact hF.has i h1 ⟨h2, .inl (h15 i h1)⟩

/-- A code that stands there is read. -/
theorem read_row {ls : List Nat} {F : Nat × Nat → Option Nat} {L : Nat} {l : List Nat} {bs : List Bool} (hc : chk ls = 0) (hF : ToldF (lq ls) ls.length 15 0 F) (hL : ToldM (lq ls) ls.length 15 0 L) (hnum : numB l = numL bs) (hlen : bs.length ≤ 8 * l.length) {a i : Nat} (hi : i < ls.length) (h0 : 0 < lq ls i) (hs : sg bs a (lq ls i) = rowOf (lq ls) ls.length i) (ha : a + lq ls i ≤ bs.length) : RdAns F L l a i 0 (lq ls i) := by
  obtain ⟨h1, h15, -⟩ := chk_zero hc
  have hbt : ∀ t, a + t ≤ bs.length → bt l a t = numL (sg bs a t) := fun t ht => by
    unfold bt sg
    rw [hnum, numL_seg _ _ _ ht]
  refine ⟨fun t t1 t2 => ?_, ⟨hL.ge i hi ⟨h0, .inl (h15 i hi)⟩, by omega⟩, .inl ⟨rfl, h0, ?_⟩⟩
  · rw [hbt t (by omega)]
    cases hF' : F (numL (sg bs a t), t) with
    | none => rfl
    | some j =>
      exfalso
      have hsl := seg_len (bs := bs) (a := a) (t := t) (by omega)
      rw [show (numL (sg bs a t), t) = (numL (sg bs a t), (sg bs a t).length) by rw [hsl]] at hF'
      obtain ⟨j1, j2, j3⟩ := (told_num hF _ h15).1 hF'
      have hjt : lq ls j = t := by
        have := congrArg List.length j3
        rwa [rowOf_len, hsl] at this
      refine row_apart (room_of_chk hc) hi j1 j2 (by omega) (h15 i hi) (fun e => by subst e; omega) ?_
      rw [j3, ← hs, sg_take (by omega), hjt]
  · rw [hbt _ ha]
    have hsl := seg_len (bs := bs) (a := a) (t := lq ls i) ha
    have := (told_num hF (sg bs a (lq ls i)) (i := i) h15).2 ⟨hi, h0, hs.symm⟩
    rwa [hsl] at this

end Go.Proofs.Ytlbhgackpjfhaaa
