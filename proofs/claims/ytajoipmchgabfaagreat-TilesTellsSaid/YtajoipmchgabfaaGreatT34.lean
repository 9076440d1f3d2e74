/- tiles: what pieces has in memory; laws for regions whose last operations build a slice, append it, and store. -/
import Derived.Test.YtajoipmchgabfaaGreatT28
import Derived.Test.YtajoipmchgabfaaGreatT23
import Derived.Test.YtajoipmchgabfaaGreatT29
import Derived.Test.YtajoipmchgabfaaGreatT25
import Derived.Test.YtajoipmchgabfaaGreatT33
namespace Go.Proofs.YtajoipmchgabfaaGreat
open Go.RowKit Go.Maps

section
variable {P : Program}

/-- Marks of ranges over functions among the deferred calls. -/
def mkD (r : Nat) : Deferred := { target := .collected r, args := #[] }
theorem leaves_marks {F : Fence} {n : Nat} {fn : Func} {tmps : Array Value} {R : Ending → World → Prop} : ∀ (rs : List Nat) (w : World), rs.Nodup → (∀ r ∈ rs, w.heap[r]? = some (.deferred (some []))) →
    (∀ w', Turns (fun b => b ∈ rs) w w' → LeavesIn F n P fn tmps R [] .returning w') → LeavesInM F n P fn tmps R (rs.map mkD) .returning w
  | [], w, _, _, h => h w (Turns.refl _ _)
  | r :: rs, w, hnd, hd, h => by
    obtain ⟨n1, n2⟩ := List.nodup_cons.1 hnd
    have htd := Turns.put (T := fun b => b = r) w r (.deferred none) rfl
    refine ⟨by simp, .inl ⟨r, _, rfl, run_takeDeferred (hd r List.mem_cons_self), leaves_marks rs _ n2 (fun q hq => ?_) fun w' ht => h w' ?_⟩⟩
    · have hq' := hd q (List.mem_cons_of_mem _ hq)
      exact (htd.block q (lt_heapT hq') (fun e => by subst e; exact n1 hq)).trans hq'
    · exact (htd.mono (fun i _ e => by rw [e]; exact List.mem_cons_self)).trans (ht.mono (fun i _ hi => List.mem_cons_of_mem _ hi))
end

def ownF (F : Nat → Option Value) (i : Nat) : Value := (F i).getD (.slice none 0 0)
def intF (F : Nat → Option Value) (k : Int) : Option Value := if 0 ≤ k then F k.toNat else none
theorem intF_nat (F : Nat → Option Value) (i : Nat) : intF F (i : Int) = F i := by unfold intF; simp

/-- A map's box b8, its map M, the rows that the map holds: each of one's own, apart from each other, and from T. -/
structure PcF (w0 : World) (b8 M N0 : Nat) (T : Nat → Prop) (F : Nat → Option Value) (E : List (Nat × Rc)) (w : World) : Prop where
  box : w.cell? ⟨b8, 0, none⟩ = some (.map (some M))
  map : MapV w M E.length (intF F)
  no : ∀ i, ofN E i = [] → F i = none
  yes : ∀ i, ofN E i ≠ [] → F i ≠ none
  row : ∀ i, w.ownsRow N0 37 4 (ownF F i) (ofN E i).length (flatR (ofN E i))
  apart : ∀ i j k, (ownF F i).ownBlock = some k → (ownF F j).ownBlock = some k → i = j
  out : ∀ i k, (ownF F i).ownBlock = some k → ¬ T k
  tb : ¬ T b8
  tm : ¬ T M
  tw : ∀ b, T b → w0.heap.size ≤ b
  lb : b8 < N0
  lm : M < N0
  ne : b8 ≠ M
  nw : N0 ≤ w.heap.size
  wm : w0.heap.size ≤ M
  bel : Below w0.heap.size w0 w

variable {w0 w w' : World} {b8 M N0 m : Nat} {T Tp S : Nat → Prop} {F : Nat → Option Value} {E : List (Nat × Rc)}
theorem PcF.turn (h : PcF w0 b8 M N0 Tp F E w) (ht : Turns S w w') (hS : ∀ b, S b → Tp b) (hm : w.heap.size ≤ m) (hT : ∀ b, T b → Tp b ∨ m ≤ b) : PcF w0 b8 M N0 T F E w' := by
  obtain ⟨h1, h2, h3, h4, h5, h6, h7, h8, h9, h10, h11, h12, h13, h14, h15, h16⟩ := h
  have h16s := h16.size
  refine ⟨ht.cell h1 (fun hb => h8 (hS _ hb)), h2.turned ht (fun hb => h9 (hS _ hb)), h3, h4, fun i => ht.owns (h5 i) (fun k hk hb => h7 i k hk (hS _ hb)), h6, fun i k hk hb => ?_, fun hb => ?_, fun hb => ?_, fun b hb => ?_, h11, h12, h13, Nat.le_trans h14 ht.size, h15, h16.trans (ht.below h16.size (fun i hi => h10 i (hS i hi)))⟩
  · have := ((h5 i).lt k hk).2
    rcases hT _ hb with h | h
    · exact h7 i k hk h
    · omega
  · rcases hT _ hb with h | h
    · exact h8 h
    · omega
  · rcases hT _ hb with h | h
    · exact h9 h
    · omega
  · rcases hT _ hb with h | h
    · exact h10 _ h
    · omega

theorem PcF.step {w4 w5 : World} (h : PcF w0 b8 M N0 T F E w) {num : Nat} {r : Rc} {v' : Value} (hT : ∀ b, T b → b < w.heap.size)
    (ht4 : Turns (fun b => (ownF F num).ownBlock = some b) w w4) (ho4 : w4.ownsRow N0 37 4 v' ((ofN E num).length + 1) (flatR (ofN E num) ++ encR r)) (hp : ∀ k, v'.ownBlock = some k → (ownF F num).ownBlock = some k ∨ w.heap.size ≤ k)
    (ht5 : w4.mapTurned w5 M) (hm5 : MapV w5 M (E.length + 1) (fun k' => if k' = (num : Int) then some v' else intF F k')) : PcF w0 b8 M N0 T (fun i => if i = num then some v' else F i) (E ++ [(num, r)]) w5 := by
  obtain ⟨h1, h2, h3, h4, h5, h6, h7, h8, h9, h10, h11, h12, h13, h14, h15, h16⟩ := h
  have ht5' := mt_turnsV ht5
  have h16s := h16.size
  have hown : ∀ i k, (ownF F i).ownBlock = some k → N0 ≤ k ∧ k < w.heap.size := fun i k hk => (h5 i).lt k hk
  have hne : ∀ i, i ≠ num → ofN (E ++ [(num, r)]) i = ofN E i := fun i hi => by rw [ofN_append, ofN_one, if_neg (fun e => hi e.symm), List.append_nil]
  have hsame : ofN (E ++ [(num, r)]) num = ofN E num ++ [r] := by rw [ofN_append, ofN_one, if_pos rfl]
  have hF1 : ownF (fun i => if i = num then some v' else F i) num = v' := by unfold ownF; simp
  have hF2 : ∀ i, i ≠ num → ownF (fun i => if i = num then some v' else F i) i = ownF F i := fun i hi => by unfold ownF; simp [hi]
  refine ⟨ht5'.cell (ht4.cell h1 (fun hb => by have := (hown _ _ hb).1; simp only at this; omega)) (fun e => h13 e), ?_, fun i hi => ?_, fun i hi => ?_, fun i => ?_, fun i j k hi hj => ?_, fun i k hi hb => ?_, h8, h9, h10, h11, h12, h13, Nat.le_trans h14 (Nat.le_trans ht4.size ht5'.size), h15, ?_⟩
  · rw [List.length_append]
    have e : (intF fun i => if i = num then some v' else F i) = fun k' => if k' = (num : Int) then some v' else intF F k' := by
      funext k
      unfold intF
      by_cases hk : 0 ≤ k
      · by_cases e : k = (num : Int)
        · subst e; simp
        · have e' : k.toNat ≠ num := by omega
          simp [hk, e, e']
      · have e : k ≠ (num : Int) := by omega
        simp [hk, e]
    rw [e]; exact hm5
  · by_cases e : i = num
    · subst e; rw [hsame] at hi; simp at hi
    · rw [hne i e] at hi; simp only [if_neg e]; exact h3 i hi
  · by_cases e : i = num
    · simp [e]
    · rw [hne i e] at hi; simp only [if_neg e]; exact h4 i hi
  · by_cases e : i = num
    · subst e
      rw [hF1, hsame, List.length_append, show flatR (ofN E i ++ [r]) = flatR (ofN E i) ++ encR r by simp [flatR]]
      exact ht5'.owns ho4 (fun k hk e => by have := (ho4.lt k hk).1; omega)
    · rw [hF2 i e, hne i e]
      exact ht5'.owns (ht4.owns (h5 i) (fun k hk hb => e (h6 i num k hk hb))) (fun k hk e => by have := (hown i k hk).1; omega)
  · by_cases ei : i = num
    · by_cases ej : j = num
      · rw [ei, ej]
      · subst ei
        rw [hF1] at hi
        rw [hF2 j ej] at hj
        rcases hp k hi with h | h
        · exact h6 _ _ k h hj
        · have := (hown j k hj).2; omega
    · rw [hF2 i ei] at hi
      by_cases ej : j = num
      · subst ej
        rw [hF1] at hj
        rcases hp k hj with h | h
        · exact h6 _ _ k hi h
        · have := (hown i k hi).2; omega
      · rw [hF2 j ej] at hj
        exact h6 i j k hi hj
  · by_cases ei : i = num
    · subst ei
      rw [hF1] at hi
      rcases hp k hi with h | h
      · exact h7 i k h hb
      · have := hT k hb; omega
    · rw [hF2 i ei] at hi
      exact h7 i k hi hb
  · exact h16.trans ((ht4.below h16.size (fun b hb => by have := (hown _ _ hb).1; omega)).trans (ht5'.below (Nat.le_trans h16.size ht4.size) (fun b hb => by omega)))

end Go.Proofs.YtajoipmchgabfaaGreat
