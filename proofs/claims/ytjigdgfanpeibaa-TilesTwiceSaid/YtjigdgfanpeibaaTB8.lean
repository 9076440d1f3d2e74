/- region's sortEdges: a row of edges that the caller owns holds, behind the call, the same edges, sorted by place. -/
import Derived.Test.YtjigdgfanpeibaaTB7
namespace Go.Proofs.Ytjigdgfanpeibaa
open Go.RowKit Go.Shelf Go.Sort Go.Lib

def flatE (l : List Ed) : List Value := l.flatMap encE

theorem flatE_len (l : List Ed) : (flatE l).length = l.length * 7 := by
  induction l with
  | nil => rfl
  | cons e l ih => simp only [flatE, List.flatMap_cons, List.length_append, List.length_cons] at ih ⊢; rw [ih]; simp [encE]; omega

theorem flat_at {α : Type} {enc : α → List Value} {k : Nat} (hk : ∀ x, (enc x).length = k) (l : List α) (i j : Nat) (hj : j < k) : (l.flatMap enc)[i * k + j]? = l[i]?.bind (fun x => (enc x)[j]?) := by
  induction l generalizing i with
  | nil => simp
  | cons x l ih =>
    rw [List.flatMap_cons]
    cases i with
    | zero =>
      rw [Nat.zero_mul, Nat.zero_add, List.getElem?_append_left (by rw [hk]; exact hj)]
      simp
    | succ i =>
      rw [List.getElem?_append_right (by rw [hk, Nat.add_mul]; omega), hk, show (i + 1) * k + j - k = i * k + j by rw [Nat.add_mul]; omega, ih]
      simp

/-- What a slice owns it reads as. -/
theorem owns_row {α : Type} {enc : α → List Value} {k : Nat} (hk : ∀ x, (enc x).length = k) {W : World} {base : Nat} {e : TypeId} {v : Value} {xs : List α} (h : W.ownsRow base e k v xs.length (xs.flatMap enc)) : Row enc k W v xs := by
  rcases h.2 with ⟨rfl, h0⟩ | ⟨g, cap, cur, rfl, hb, hg, hn, hm, hs, ht⟩
  · have hx : xs = [] := List.eq_nil_of_length_eq_zero h0
    subst hx
    exact ⟨none, 0, rfl, by simp, by simp [maxLen], .inl ⟨rfl, rfl⟩⟩
  · refine ⟨some ⟨g, 0, none⟩, cap, rfl, hn, hm, .inr ⟨g, 0, rfl, (Array.getElem?_eq_some_iff.1 hg).1, fun i x hi j u hj => ?_⟩⟩
    have hjk : j < k := by have := (List.getElem?_eq_some_iff.1 hj).1; rw [hk] at this; exact this
    have h1 := flat_at hk xs i j hjk
    rw [hi] at h1
    simp only [Option.bind_some] at h1
    rw [hj, ← ht, List.getElem?_take] at h1
    split at h1
    · simp only [Nat.zero_add]
      rw [cell_of_row W g (i * k + j) cur e (0, 0) hg]
      simpa using h1
    · cases h1

theorem owns_holds {W : World} {base : Nat} {e : TypeId} {g cap : Nat} {xs : List Ed} (h : W.ownsRow base e 7 (.slice (some ⟨g, 0, none⟩) xs.length cap) xs.length (flatE xs)) : HoldsK encE 7 W g 0 xs.toArray := by
  obtain ⟨p, cap', hv, -, -, hr⟩ := owns_row (enc := encE) (k := 7) (fun _ => rfl) h
  cases hv
  rcases h.2 with ⟨h0, _⟩ | ⟨g', cap', cur, h0, hb, hg, hn, hm, hs, ht⟩
  · cases h0
  · cases h0
    intro t hlt
    rw [size_flatK] at hlt
    simp only [List.size_toArray] at hlt
    rw [get_flatK _ _ _ _ (by simpa using hlt)]
    rcases hr with ⟨h1, _⟩ | ⟨b', off', h1, _, hc⟩
    · cases h1
    · cases h1
      have hi : t / 7 < xs.length := by omega
      have hj : t % 7 < 7 := by omega
      have h2 := hc (t / 7) xs[t / 7] (List.getElem?_eq_getElem hi) (t % 7) ((encE xs[t / 7])[t % 7]'(by exact hj)) (List.getElem?_eq_getElem _)
      rw [show 0 + t / 7 * 7 + t % 7 = 0 + t by omega] at h2
      refine ⟨?_, ?_⟩
      · rw [h2]
        simp [hi]
        rw [List.getElem?_eq_getElem (by exact hj)]
        rfl
      · simp [World.frozen?, hg]

theorem ltPl (x y : Ed) : ltOf (fun x y : Ed => Lib.compareInt x.pl y.pl) x y = decide (x.pl < y.pl) := by
  unfold ltOf Lib.compareInt
  by_cases h1 : x.pl < y.pl
  · simp [h1]
  · by_cases h2 : y.pl < x.pl <;> simp [h1, h2]

theorem swoPl : SWO (ltOf fun x y : Ed => Lib.compareInt x.pl y.pl) where
  irrefl x := by rw [ltPl]; simp
  trans x y z h1 h2 := by rw [ltPl] at *; simp at *; omega
  ntrans x y z h1 h2 := by rw [ltPl] at *; simp at *; omega

set_option maxHeartbeats 1000000 in
theorem cmpEd_any (x y : Ed) (W : World) : Calls Try.prog 133 #[EV x, EV y] W fun e w' => e = .returned (.int .i64 (Lib.compareInt x.pl y.pl)) ∧ ∃ q os', w' = grow (W.drewN q) os' := by
  have hcon := fun W' => AnyG.cmp_Compare_int Try.cmpL x.pl y.pl W'
  change ∀ W', Calls Try.prog 134 _ _ _ at hcon
  generalize Lib.compareInt x.pl y.pl = r at hcon ⊢
  go_enter Try.func133, Try.ntmps133
  go_wp2_with (go_at_call 134; refine (hcon _).mono ?_; rintro e w' ⟨rfl, rfl⟩)
  go_ret
  exact ⟨rfl, 0, _, by rw [alloc_eq_grow, alloc_eq_grow, grow_grow]; rfl⟩

theorem ed_agg : ∀ w, (isAgg 151).run Try.prog w = .ok true w := fun _ => by kernel_rfl
theorem ed_size : ∀ w, (Go.sizeOf 151).run Try.prog w = .ok 7 w := fun _ => by kernel_rfl

/-- The edges of l, by place. -/
def SortedPl (l : List Ed) : Prop := ∀ i j (hi : i < l.length) (hj : j < l.length), i < j → l[i].pl ≤ l[j].pl

theorem flatK_list (d : Array Ed) (t : Nat) (h : t < d.size * 7) : (flatE d.toList)[t]? = some (flatK encE 7 d)[t]! := by
  have h1 := flat_at (enc := encE) (k := 7) (fun _ => rfl) d.toList (t / 7) (t % 7) (by omega)
  rw [show t / 7 * 7 + t % 7 = t by omega] at h1
  have hi : t / 7 < d.size := by omega
  have hj : t % 7 < (encE d[t / 7]).length := by show t % 7 < 7; omega
  rw [get_flatK _ _ _ _ h]
  unfold flatE
  rw [h1]
  rw [getElem!_pos d (t / 7) hi, getElem!_pos (encE d[t / 7]) (t % 7) hj]
  simp only [Array.getElem?_toList, Array.getElem?_eq_getElem hi, Option.bind_some]
  rw [List.getElem?_eq_getElem hj]

/-- A row that is laid anew. -/
theorem owns_put {W : World} {base : Nat} {e : TypeId} {g cap m : Nat} {xs ys : List Ed} (os : Array Obj) (h : W.ownsRow base e 7 (.slice (some ⟨g, 0, none⟩) xs.length cap) xs.length (flatE xs)) (hl : ys.length = xs.length) :
    (sortWorldK encE 7 W g 0 m ys.toArray os).ownsRow base e 7 (.slice (some ⟨g, 0, none⟩) xs.length cap) xs.length (flatE ys) ∧ W.grownBy (sortWorldK encE 7 W g 0 m ys.toArray os) (some g) := by
  rcases h.2 with ⟨h0, _⟩ | ⟨g', cap', cur, h0, hb, hg, hn, hm, hs, ht⟩
  · cases h0
  · cases h0
    have hlt := (Array.getElem?_eq_some_iff.1 hg).1
    have hsz : (W.heap.modify g (onCells (putCells id 0 (flatK encE 7 ys.toArray)))).size = W.heap.size := Array.size_modify
    have hh : (sortWorldK encE 7 W g 0 m ys.toArray os).heap[g]? = some (.cells (putCells id 0 (flatK encE 7 ys.toArray) cur) e (0, 0)) := by
      show ((W.heap.modify g (onCells (putCells id 0 (flatK encE 7 ys.toArray)))) ++ os)[g]? = _
      rw [Array.getElem?_append_left (by rw [hsz]; exact hlt), Array.getElem?_modify, if_pos rfl, hg]
      rfl
    have hfl : (flatE ys).length = xs.length * 7 := by rw [flatE_len, hl]
    refine ⟨⟨hfl, .inr ⟨g, cap, _, rfl, hb, hh, hn, hm, by simp [putCells, hs], ?_⟩⟩, rfl, rfl, rfl, ?_, fun k hk hne => ?_⟩
    · refine List.ext_getElem? fun t => ?_
      rw [List.getElem?_take]
      split
      · rename_i htl
        have h1 := flatK_list ys.toArray t (by simp; omega)
        simp only at h1
        rw [h1]
        have hc : t < cur.size := by have : xs.length * 7 ≤ cap * 7 := Nat.mul_le_mul_right 7 hn; omega
        simp [putCells, hc]
        omega
      · rw [List.getElem?_eq_none (by omega)]
    · show W.heap.size ≤ ((W.heap.modify g _) ++ os).size
      rw [Array.size_append, hsz]; omega
    · show ((W.heap.modify g _) ++ os)[k]? = _
      rw [Array.getElem?_append_left (by rw [hsz]; exact hk), Array.getElem?_modify, if_neg (fun e => hne (by rw [e]))]

set_option maxHeartbeats 1000000 in
theorem sortEdges_any (base : Nat) (v : Value) (xs : List Ed) (w : World) (hlen : xs.length < 4611686018427387904) (hown : w.ownsRow base 151 7 v xs.length (flatE xs)) :
    Calls Try.prog 122 #[v] w fun e w' => e = .returned (.tuple #[]) ∧ ∃ ys : List Ed, ys.Perm xs ∧ SortedPl ys ∧ w'.ownsRow base 151 7 v xs.length (flatE ys) ∧ w.grownBy w' v.ownBlock := by
  have eg : ∀ args w, (callFunc 133 args).run Try.prog w = .ok (.enter 133 args) w := enters_of Try.func133 (by kernel_rfl) rfl
  have hown0 := hown
  rcases hown.2 with ⟨rfl, h0⟩ | ⟨g, cap, cur, rfl, hb, hg, hn, hm, hs, ht⟩
  · have hx : xs = [] := List.eq_nil_of_length_eq_zero h0
    subst hx
    have hcon := AnyF.slices_SortFunc_none Try.sortL none 0 (.func (.func 133) #[] #[]) w
    change Calls Try.prog 132 _ _ _ at hcon
    have Hown := Lib.hid hown0
    clear hown hown0 h0
    go_enter Try.func122, Try.ntmps122
    go_wp2_with (go_at_call 132; refine hcon.mono ?_; rintro e w' ⟨rfl, rfl⟩)
    go_end0
    exact ⟨rfl, [], List.Perm.refl _, fun i j hi => by simp at hi, Hown.out, ⟨rfl, rfl, rfl, Nat.le_refl _, fun _ _ _ => rfl⟩⟩
  · have hcon := AnyQ.slices_SortFunc Try.sortL 7 ed_agg ed_size encE (fun _ => rfl) (fun x v hv => by simp [encE] at hv; rcases hv with rfl | rfl | rfl | rfl | rfl | rfl | rfl <;> rfl) (fun x y => Lib.compareInt x.pl y.pl) swoPl 133 #[] g 0 cap xs.toArray w eg (fun _ _ _ _ x y => cmpEd_any x y _) (owns_holds hown0) (Array.getElem?_eq_some_iff.1 hg).1 (by simpa using hlen)
    change Calls Try.prog 132 _ _ _ at hcon
    simp only [List.size_toArray] at hcon
    have Hown := Lib.hid hown0
    clear hown hown0 hg hs ht
    go_enter Try.func122, Try.ntmps122
    go_wp2_with (go_at_call 132; refine hcon.mono ?_; rintro e w' ⟨rfl, d', n, os, hp, hso, rfl⟩)
    go_end0
    have hsz : d'.size = xs.length := by simpa using hp.1
    obtain ⟨ys⟩ := d'
    simp only [List.size_toArray] at hsz
    obtain ⟨h1, h2⟩ := owns_put (m := n) os Hown.out hsz
    refine ⟨rfl, ys, ?_, ?_, h1, h2⟩
    · have := hp.2.2
      have h3 : xs.take ys.length = xs := List.take_of_length_le (by omega)
      simpa [← hsz, h3] using this
    · intro i j hi hj hij
      have := hso i j (Nat.zero_le _) hij (by rw [hsz] at hj; exact hj)
      rw [ltPl] at this
      simp [hi, hj] at this
      exact this

end Go.Proofs.Ytjigdgfanpeibaa
