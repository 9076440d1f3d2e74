/- The document's own: numbers, sorted (rise). -/
import Derived.Test.YtmhggbojnkmlpaaHufT
namespace Go.Proofs.Ytmhggbojnkmlpaa
open Go.RowKit

/-- Numbers as cells. -/
def nV (x : Nat) : Value := .int .i64 (x : Int)
def encN (x : Nat) : List Value := [nV x]
theorem encN_len (x : Nat) : (encN x).length = 1 := rfl
theorem flatN : ∀ l : List Nat, l.flatMap encN = l.map nV
  | [] => rfl
  | b :: r => by rw [List.flatMap_cons, flatN r]; rfl
theorem oneN (l : List Nat) : ∀ u ∈ l.map nV, u.oneCell' = true := by
  intro u hu
  obtain ⟨b, _, rfl⟩ := List.mem_map.1 hu
  rfl
theorem int_infoN : (Try.prog.info? 3).map (fun i => (i.zero, i.size, i.bytes)) = some (some (.int .i64 0), 1, 8) := by kernel_rfl

/-- A row of numbers of its own. -/
def OwnN (w : World) (base : Nat) (v : Value) (l : List Nat) : Prop := w.ownsRow base 3 1 v l.length (l.map nV)
theorem OwnN.row {w : World} {base : Nat} {v : Value} {l : List Nat} (h : OwnN w base v l) : Row encN 1 w v l := by
  unfold OwnN at h
  rw [← flatN] at h
  exact owns_row' encN_len h
theorem OwnN.lt {w : World} {base : Nat} {v : Value} {l : List Nat} (h : OwnN w base v l) : ∀ k, v.ownBlock = some k → base ≤ k ∧ k < w.heap.size := World.ownsRow.lt h
theorem OwnN.below {w w' : World} {base : Nat} {v : Value} {l : List Nat} (h : OwnN w base v l) (hb : Below w.heap.size w w') : OwnN w' base v l :=
  (Turns.of_below' (T := fun _ => False) hb).owns h (fun _ _ h => h)

theorem RowAt.num {W : World} {p : Option Addr} {xs : List Nat} (h : RowAt encN 1 W p xs) {k : Nat} (hk : k < xs.length) : ∃ b off, p = some ⟨b, off, none⟩ ∧ W.cell? ⟨b, off + k, none⟩ = some (.int .i64 (xs[k] : Int)) := by
  rcases h with ⟨-, rfl⟩ | ⟨b, off, rfl, -, h⟩
  · simp at hk
  · refine ⟨b, off, rfl, ?_⟩
    have := h k xs[k] (List.getElem?_eq_getElem hk) 0 _ rfl
    simpa [nV] using this

/-- Where the slice of a row of its own, cut at m, reads from: what append wants. -/
theorem cut_lo {w : World} {base c n m : Nat} {p : Option Addr} {l : List Nat} (h : w.ownsRow base 3 1 (.slice p n c) n (l.map nV)) (hn : n = l.length) (hm : m ≤ n) : (p = none ∧ m = 0 ∧ c = 0) ∨ ∃ ad, p = some ad ∧ ∀ j u, ((l.take m).map nV)[j]? = some u → w.cell? (ad.add j) = some u := by
  rcases h.2 with ⟨h0, h1⟩ | ⟨g, cap, cur, e, _⟩
  · injection h0 with a1 a2 a3
    exact .inl ⟨a1, by omega, a3⟩
  · injection e with a1 a2 a3
    subst a1
    refine .inr ⟨_, rfl, fun j u hj => ?_⟩
    have hjm := (List.getElem?_eq_some_iff.1 hj).1
    rw [List.length_map, List.length_take] at hjm
    rw [Addr.add_lit, Nat.zero_add, h.cellAt j (by omega)]
    rw [List.map_take, List.getElem?_take_of_lt (by omega)] at hj
    exact hj

theorem cut_hi {w : World} {base c n m : Nat} {p : Option Addr} {l : List Nat} (h : w.ownsRow base 3 1 (.slice p n c) n (l.map nV)) (hn : n = l.length) (hm : m ≤ n) (hmc : m < c) : ∃ ad, p = some ad ∧ ∀ j u, ((l.drop m).map nV)[j]? = some u → w.cell? ((ad.add m).add j) = some u := by
  rcases h.2 with ⟨h0, h1⟩ | ⟨g, cap, cur, e, _⟩
  · injection h0 with a1 a2 a3
    omega
  · injection e with a1 a2 a3
    subst a1
    refine ⟨_, rfl, fun j u hj => ?_⟩
    have hjm := (List.getElem?_eq_some_iff.1 hj).1
    rw [List.length_map, List.length_drop] at hjm
    rw [Addr.add_lit, Addr.add_lit, Nat.zero_add, h.cellAt (m + j) (by omega)]
    rw [List.map_drop, List.getElem?_drop] at hj
    exact hj

theorem own_cap {w : World} {base c n size : Nat} {e : TypeId} {p : Option Addr} {xs : List Value} (h : w.ownsRow base e size (.slice p n c) n xs) : n ≤ c ∧ c ≤ maxLen := by
  rcases h.2 with ⟨h0, h1⟩ | ⟨g, cap, cur, e, _, _, h2, h3, _⟩
  · injection h0 with a1 a2 a3
    simp only [maxLen]; omega
  · injection e with a1 a2 a3
    subst a3
    exact ⟨h2, h3⟩

/-- x laid into a sorted row at m. -/
def insAt (out : List Nat) (m x : Nat) : List Nat := out.take m ++ [x] ++ out.drop m
theorem insAt_len {out : List Nat} {m x : Nat} (h : m ≤ out.length) : (insAt out m x).length = out.length + 1 := by
  simp [insAt]; omega
theorem insAt_perm (out : List Nat) (m x : Nat) : (insAt out m x).Perm (out ++ [x]) := by
  unfold insAt
  have h1 : (out.take m ++ [x] ++ out.drop m).Perm (out.take m ++ (out.drop m ++ [x])) := by
    rw [List.append_assoc]
    exact List.perm_append_comm.append_left _
  rw [← List.append_assoc, List.take_append_drop] at h1
  exact h1
theorem insAt_up {out : List Nat} {m x : Nat} (hu : Up out) (hm : m ≤ out.length) (h1 : ∀ j (hj : j < out.length), j < m → out[j] ≤ x) (h2 : ∀ (hj : m < out.length), x < out[m]) : Up (insAt out m x) := by
  unfold insAt
  have hsplit : Up (out.take m ++ out.drop m) := by rw [List.take_append_drop]; exact hu
  unfold Up at hsplit ⊢
  rw [List.pairwise_append] at hsplit
  have hlo : ∀ a ∈ out.take m, a ≤ x := fun a ha => by
    obtain ⟨j, hj, rfl⟩ := List.getElem_of_mem ha
    rw [List.length_take] at hj
    rw [List.getElem_take]
    exact h1 j (by omega) (by omega)
  have hhi : ∀ b ∈ out.drop m, x ≤ b := fun b hb => by
    obtain ⟨j, hj, rfl⟩ := List.getElem_of_mem hb
    rw [List.length_drop] at hj
    have h3 := h2 (by omega)
    rw [List.getElem_drop]
    rcases Nat.eq_zero_or_pos j with h0 | h0
    · subst h0; simp only [Nat.add_zero]; omega
    · have h4 := (List.pairwise_iff_getElem.1 hu) m (m + j) (by omega) (by omega) (by omega)
      omega
  rw [List.append_assoc, List.pairwise_append]
  refine ⟨hsplit.1, List.pairwise_cons.2 ⟨fun b hb => hhi b hb, hsplit.2.1⟩, fun a ha b hb => ?_⟩
  rcases List.mem_cons.1 hb with rfl | hb
  · exact hlo a ha
  · exact Nat.le_trans (hlo a ha) (hhi b hb)

end Go.Proofs.Ytmhggbojnkmlpaa
