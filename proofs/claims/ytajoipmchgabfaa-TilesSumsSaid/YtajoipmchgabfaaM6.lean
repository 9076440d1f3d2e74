/- Several texts in one, each with its own head. -/
import Derived.Shelf.SlGeneric
import Derived.Shelf.SlSortCmp.WholeK
import Derived.Shelf.SlSortCmp.NoneTotal
import Derived.Shelf.SlicesQ.IndexFunc
import Derived.Shelf.SlicesG.Cmp
import Derived.Ground.SlsfProg
import Derived.Ground.SlgcProg
import Derived.Ground.SlgfProg
import Derived.Test.YtajoipmchgabfaaProg
import Derived.Test.YtajoipmchgabfaaM5
/- The library's sort, compare, index and contains, laid at this program: each field a fact of the program, compared by the kernel. -/
namespace Go.Proofs
open Go.Shelf
def Try.sortL_ren : Go.Shelf.Ren := ⟨fun | 6 => 123 | 15 => 86 | 14 => 127 | 28 => 97 | 29 => 98 | 20 => 128 | 21 => 129 | 22 => 130 | 23 => 131 | 24 => 132 | 25 => 133 | 26 => 134 | 27 => 135 | 46 => 136 | 47 => 104 | 48 => 105 | 49 => 137 | 50 => 138 | 57 => 139 | n => n, fun | 22 => 140 | 24 => 153 | 25 => 163 | 3 => 3 | 39 => 117 | 0 => 0 | 53 => 35 | 55 => 131 | 4 => 4 | 46 => 123 | 45 => 122 | 50 => 127 | 5 => 5 | 9 => 9 | 66 => 134 | 70 => 138 | 76 => 149 | 77 => 88 | n => n, fun | n => n⟩
theorem Try.sortL : Go.Proofs.SlLaysF0.n6 Try.prog Try.sortL_ren := {
  mixed := by kernel_rfl
  f6 := ⟨Try.f123.name, by decide, Try.func123.trans (congrArg some (by kernel_rfl))⟩
  f14 := ⟨Try.f127.name, by decide, Try.func127.trans (congrArg some (by kernel_rfl))⟩
  f15 := Try.func86.trans (congrArg some (by kernel_rfl))
  f20 := ⟨Try.f128.name, by decide, Try.func128.trans (congrArg some (by kernel_rfl))⟩
  f21 := ⟨Try.f129.name, by decide, Try.func129.trans (congrArg some (by kernel_rfl))⟩
  f22 := ⟨Try.f130.name, by decide, Try.func130.trans (congrArg some (by kernel_rfl))⟩
  f23 := ⟨Try.f131.name, by decide, Try.func131.trans (congrArg some (by kernel_rfl))⟩
  f24 := ⟨Try.f132.name, by decide, Try.func132.trans (congrArg some (by kernel_rfl))⟩
  f25 := ⟨Try.f133.name, by decide, Try.func133.trans (congrArg some (by kernel_rfl))⟩
  f26 := ⟨Try.f134.name, by decide, Try.func134.trans (congrArg some (by kernel_rfl))⟩
  f27 := ⟨Try.f135.name, by decide, Try.func135.trans (congrArg some (by kernel_rfl))⟩
  f28 := Try.func97.trans (congrArg some (by kernel_rfl))
  f29 := Try.func98.trans (congrArg some (by kernel_rfl))
  f46 := ⟨Try.f136.name, by decide, Try.func136.trans (congrArg some (by kernel_rfl))⟩
  f47 := Try.func104.trans (congrArg some (by kernel_rfl))
  f48 := Try.func105.trans (congrArg some (by kernel_rfl))
  f49 := ⟨Try.f137.name, by decide, Try.func137.trans (congrArg some (by kernel_rfl))⟩
  f50 := ⟨Try.f138.name, by decide, Try.func138.trans (congrArg some (by kernel_rfl))⟩
  f57 := ⟨Try.f139.name, by decide, Try.func139.trans (congrArg some (by kernel_rfl))⟩
  t0 := Try.underlying0
  a0 := Try.isAgg0
  z0 := Try.sizeOf0
  v0 := Try.zeroValue0
  t3 := Try.underlying3
  a3 := Try.isAgg3
  z3 := Try.sizeOf3
  v3 := Try.zeroValue3
  t4 := Try.underlying4
  a4 := Try.isAgg4
  z4 := Try.sizeOf4
  v4 := Try.zeroValue4
  t5 := Try.underlying5
  a5 := Try.isAgg5
  z5 := Try.sizeOf5
  v5 := Try.zeroValue5
  t9 := Try.underlying9
  a9 := Try.isAgg9
  z9 := Try.sizeOf9
  v9 := Try.zeroValue9
  t22 := Try.underlying140
  a22 := Try.isAgg140
  z22 := Try.sizeOf140
  v22 := Try.zeroValue140
  t25 := Try.underlying163
  a25 := Try.isAgg163
  z25 := Try.sizeOf163
  v25 := Try.zeroValue163
  t39 := Try.underlying117
  a39 := Try.isAgg117
  z39 := Try.sizeOf117
  v39 := Try.zeroValue117
  t45 := Try.underlying122
  a45 := Try.isAgg122
  z45 := Try.sizeOf122
  v45 := Try.zeroValue122
  t46 := Try.underlying123
  a46 := Try.isAgg123
  z46 := Try.sizeOf123
  v46 := Try.zeroValue123
  t50 := Try.underlying127
  a50 := Try.isAgg127
  z50 := Try.sizeOf127
  v50 := Try.zeroValue127
  t53 := Try.underlying35
  a53 := Try.isAgg35
  z53 := Try.sizeOf35
  v53 := Try.zeroValue35
  t55 := Try.underlying131
  a55 := Try.isAgg131
  z55 := Try.sizeOf131
  v55 := Try.zeroValue131
  t66 := Try.underlying134
  a66 := Try.isAgg134
  z66 := Try.sizeOf134
  v66 := Try.zeroValue134
  t70 := Try.underlying138
  a70 := Try.isAgg138
  z70 := Try.sizeOf138
  v70 := Try.zeroValue138
  t76 := Try.underlying149
  a76 := Try.isAgg149
  z76 := Try.sizeOf149
  v76 := Try.zeroValue149
  t77 := Try.underlying88
  a77 := Try.isAgg88
  z77 := Try.sizeOf88
  v77 := Try.zeroValue88 }
def Try.cmpL_ren : Go.Shelf.Ren := ⟨fun | 5 => 125 | 7 => 108 | n => n, fun | 22 => 3 | 3 => 3 | 4 => 4 | n => n, fun | n => n⟩
theorem Try.cmpL : Go.Proofs.SlLaysC2.n5 Try.prog Try.cmpL_ren := {
  mixed := by kernel_rfl
  f5 := ⟨Try.f125.name, by decide, Try.func125.trans (congrArg some (by kernel_rfl))⟩
  f7 := ⟨Try.f108.name, by decide, Try.func108.trans (congrArg some (by kernel_rfl))⟩
  t3 := Try.underlying3
  a3 := Try.isAgg3
  z3 := Try.sizeOf3
  v3 := Try.zeroValue3
  t4 := Try.underlying4
  a4 := Try.isAgg4
  z4 := Try.sizeOf4
  v4 := Try.zeroValue4
  t22 := Try.underlying3
  a22 := Try.isAgg3
  z22 := Try.sizeOf3
  v22 := Try.zeroValue3 }
def Try.idxL_ren : Go.Shelf.Ren := ⟨fun | 6 => 126 | n => n, fun | 22 => 140 | 23 => 153 | 25 => 159 | 3 => 3 | 0 => 0 | 4 => 4 | n => n, fun | n => n⟩
theorem Try.idxL : Go.Proofs.SlLaysH0.n6 Try.prog Try.idxL_ren := {
  mixed := by kernel_rfl
  f6 := ⟨Try.f126.name, by decide, Try.func126.trans (congrArg some (by kernel_rfl))⟩
  t0 := Try.underlying0
  a0 := Try.isAgg0
  z0 := Try.sizeOf0
  v0 := Try.zeroValue0
  t3 := Try.underlying3
  a3 := Try.isAgg3
  z3 := Try.sizeOf3
  v3 := Try.zeroValue3
  t4 := Try.underlying4
  a4 := Try.isAgg4
  z4 := Try.sizeOf4
  v4 := Try.zeroValue4
  t22 := Try.underlying140
  a22 := Try.isAgg140
  z22 := Try.sizeOf140
  v22 := Try.zeroValue140
  t25 := Try.underlying159
  a25 := Try.isAgg159
  z25 := Try.sizeOf159
  v25 := Try.zeroValue159 }
end Go.Proofs

/- region's sortEdges: a row of edges that the caller owns holds, behind the call, the same edges, sorted by place. -/
namespace Go.Proofs.Ytajoipmchgabfaa
open Go.RowKit Go.Shelf Go.Sort Go.Lib

def flatE (l : List Ed) : List Value := l.flatMap encE

theorem flatE_len (l : List Ed) : (flatE l).length = l.length * 7 := by
  induction l with
  | nil => rfl
  | cons e l ih => simp only [flatE, List.flatMap_cons, List.length_append, List.length_cons] at ih ⊢; rw [ih]; simp [encE]; omega

theorem flat_at {α : Type} {enc : α → List Value} {k : Nat} (hk : ∀ x, (enc x).length = k) (l : List α) (i j : Nat) (hj : j < k) : (l.flatMap enc)[i * k + j]? = l[i]?.bind (fun x => (enc x)[j]?) := by
  induction l generalizing i with
  | nil => simp
  | cons x l ih =>
    rw [List.flatMap_cons]
    cases i with
    | zero =>
      rw [Nat.zero_mul, Nat.zero_add, List.getElem?_append_left (by rw [hk]; exact hj)]
      simp
    | succ i =>
      rw [List.getElem?_append_right (by rw [hk, Nat.add_mul]; omega), hk, show (i + 1) * k + j - k = i * k + j by rw [Nat.add_mul]; omega, ih]
      simp

/-- What a slice owns it reads as. -/
theorem owns_row {α : Type} {enc : α → List Value} {k : Nat} (hk : ∀ x, (enc x).length = k) {W : World} {base : Nat} {e : TypeId} {v : Value} {xs : List α} (h : W.ownsRow base e k v xs.length (xs.flatMap enc)) : Row enc k W v xs := by
  rcases h.2 with ⟨rfl, h0⟩ | ⟨g, cap, cur, rfl, hb, hg, hn, hm, hs, ht⟩
  · have hx : xs = [] := List.eq_nil_of_length_eq_zero h0
    subst hx
    exact ⟨none, 0, rfl, by simp, by simp [maxLen], .inl ⟨rfl, rfl⟩⟩
  · refine ⟨some ⟨g, 0, none⟩, cap, rfl, hn, hm, .inr ⟨g, 0, rfl, (Array.getElem?_eq_some_iff.1 hg).1, fun i x hi j u hj => ?_⟩⟩
    have hjk : j < k := by have := (List.getElem?_eq_some_iff.1 hj).1; rw [hk] at this; exact this
    have h1 := flat_at hk xs i j hjk
    rw [hi] at h1
    simp only [Option.bind_some] at h1
    rw [hj, ← ht, List.getElem?_take] at h1
    split at h1
    · simp only [Nat.zero_add]
      rw [cell_of_row W g (i * k + j) cur e (0, 0) hg]
      simpa using h1
    · cases h1

theorem owns_holds {W : World} {base : Nat} {e : TypeId} {g cap : Nat} {xs : List Ed} (h : W.ownsRow base e 7 (.slice (some ⟨g, 0, none⟩) xs.length cap) xs.length (flatE xs)) : HoldsK encE 7 W g 0 xs.toArray := by
  obtain ⟨p, cap', hv, -, -, hr⟩ := owns_row (enc := encE) (k := 7) (fun _ => rfl) h
  cases hv
  rcases h.2 with ⟨h0, _⟩ | ⟨g', cap', cur, h0, hb, hg, hn, hm, hs, ht⟩
  · cases h0
  · cases h0
    intro t hlt
    rw [size_flatK] at hlt
    simp only [List.size_toArray] at hlt
    rw [get_flatK _ _ _ _ (by simpa using hlt)]
    rcases hr with ⟨h1, _⟩ | ⟨b', off', h1, _, hc⟩
    · cases h1
    · cases h1
      have hi : t / 7 < xs.length := by omega
      have hj : t % 7 < 7 := by omega
      have h2 := hc (t / 7) xs[t / 7] (List.getElem?_eq_getElem hi) (t % 7) ((encE xs[t / 7])[t % 7]'(by exact hj)) (List.getElem?_eq_getElem _)
      rw [show 0 + t / 7 * 7 + t % 7 = 0 + t by omega] at h2
      refine ⟨?_, ?_⟩
      · rw [h2]
        simp [hi]
        rw [List.getElem?_eq_getElem (by exact hj)]
        rfl
      · simp [World.frozen?, hg]

theorem ltPl (x y : Ed) : ltOf (fun x y : Ed => Lib.compareInt x.pl y.pl) x y = decide (x.pl < y.pl) := by
  unfold ltOf Lib.compareInt
  by_cases h1 : x.pl < y.pl
  · simp [h1]
  · by_cases h2 : y.pl < x.pl <;> simp [h1, h2]

theorem swoPl : SWO (ltOf fun x y : Ed => Lib.compareInt x.pl y.pl) where
  irrefl x := by rw [ltPl]; simp
  trans x y z h1 h2 := by rw [ltPl] at *; simp at *; omega
  ntrans x y z h1 h2 := by rw [ltPl] at *; simp at *; omega

set_option maxHeartbeats 1000000 in
theorem cmpEd_any (x y : Ed) (W : World) : Calls Try.prog 124 #[EV x, EV y] W fun e w' => e = .returned (.int .i64 (Lib.compareInt x.pl y.pl)) ∧ ∃ q os', w' = grow (W.drewN q) os' := by
  have hcon := fun W' => AnyG.cmp_Compare_int Try.cmpL x.pl y.pl W'
  change ∀ W', Calls Try.prog 125 _ _ _ at hcon
  generalize Lib.compareInt x.pl y.pl = r at hcon ⊢
  go_enter Try.func124, Try.ntmps124
  go_wp2_with (go_at_call 125; refine (hcon _).mono ?_; rintro e w' ⟨rfl, rfl⟩)
  go_ret
  exact ⟨rfl, 0, _, by rw [alloc_eq_grow, alloc_eq_grow, grow_grow]; rfl⟩

theorem ed_agg : ∀ w, (isAgg 153).run Try.prog w = .ok true w := fun _ => by kernel_rfl
theorem ed_size : ∀ w, (Go.sizeOf 153).run Try.prog w = .ok 7 w := fun _ => by kernel_rfl

/-- The edges of l, by place. -/
def SortedPl (l : List Ed) : Prop := ∀ i j (hi : i < l.length) (hj : j < l.length), i < j → l[i].pl ≤ l[j].pl

theorem flatK_list (d : Array Ed) (t : Nat) (h : t < d.size * 7) : (flatE d.toList)[t]? = some (flatK encE 7 d)[t]! := by
  have h1 := flat_at (enc := encE) (k := 7) (fun _ => rfl) d.toList (t / 7) (t % 7) (by omega)
  rw [show t / 7 * 7 + t % 7 = t by omega] at h1
  have hi : t / 7 < d.size := by omega
  have hj : t % 7 < (encE d[t / 7]).length := by show t % 7 < 7; omega
  rw [get_flatK _ _ _ _ h]
  unfold flatE
  rw [h1]
  rw [getElem!_pos d (t / 7) hi, getElem!_pos (encE d[t / 7]) (t % 7) hj]
  simp only [Array.getElem?_toList, Array.getElem?_eq_getElem hi, Option.bind_some]
  rw [List.getElem?_eq_getElem hj]

/-- A row that is laid anew. -/
theorem owns_put {W : World} {base : Nat} {e : TypeId} {g cap m : Nat} {xs ys : List Ed} (os : Array Obj) (h : W.ownsRow base e 7 (.slice (some ⟨g, 0, none⟩) xs.length cap) xs.length (flatE xs)) (hl : ys.length = xs.length) :
    (sortWorldK encE 7 W g 0 m ys.toArray os).ownsRow base e 7 (.slice (some ⟨g, 0, none⟩) xs.length cap) xs.length (flatE ys) ∧ W.grownBy (sortWorldK encE 7 W g 0 m ys.toArray os) (some g) := by
  rcases h.2 with ⟨h0, _⟩ | ⟨g', cap', cur, h0, hb, hg, hn, hm, hs, ht⟩
  · cases h0
  · cases h0
    have hlt := (Array.getElem?_eq_some_iff.1 hg).1
    have hsz : (W.heap.modify g (onCells (putCells id 0 (flatK encE 7 ys.toArray)))).size = W.heap.size := Array.size_modify
    have hh : (sortWorldK encE 7 W g 0 m ys.toArray os).heap[g]? = some (.cells (putCells id 0 (flatK encE 7 ys.toArray) cur) e (0, 0)) := by
      show ((W.heap.modify g (onCells (putCells id 0 (flatK encE 7 ys.toArray)))) ++ os)[g]? = _
      rw [Array.getElem?_append_left (by rw [hsz]; exact hlt), Array.getElem?_modify, if_pos rfl, hg]
      rfl
    have hfl : (flatE ys).length = xs.length * 7 := by rw [flatE_len, hl]
    refine ⟨⟨hfl, .inr ⟨g, cap, _, rfl, hb, hh, hn, hm, by simp [putCells, hs], ?_⟩⟩, rfl, rfl, rfl, ?_, fun k hk hne => ?_⟩
    · refine List.ext_getElem? fun t => ?_
      rw [List.getElem?_take]
      split
      · rename_i htl
        have h1 := flatK_list ys.toArray t (by simp; omega)
        simp only at h1
        rw [h1]
        have hc : t < cur.size := by have : xs.length * 7 ≤ cap * 7 := Nat.mul_le_mul_right 7 hn; omega
        simp [putCells, hc]
        omega
      · rw [List.getElem?_eq_none (by omega)]
    · show W.heap.size ≤ ((W.heap.modify g _) ++ os).size
      rw [Array.size_append, hsz]; omega
    · show ((W.heap.modify g _) ++ os)[k]? = _
      rw [Array.getElem?_append_left (by rw [hsz]; exact hk), Array.getElem?_modify, if_neg (fun e => hne (by rw [e]))]

set_option maxHeartbeats 1000000 in
theorem sortEdges_any (base : Nat) (v : Value) (xs : List Ed) (w : World) (hlen : xs.length < 4611686018427387904) (hown : w.ownsRow base 153 7 v xs.length (flatE xs)) :
    Calls Try.prog 119 #[v] w fun e w' => e = .returned (.tuple #[]) ∧ ∃ ys : List Ed, ys.Perm xs ∧ SortedPl ys ∧ w'.ownsRow base 153 7 v xs.length (flatE ys) ∧ w.grownBy w' v.ownBlock := by
  have eg : ∀ args w, (callFunc 124 args).run Try.prog w = .ok (.enter 124 args) w := enters_of Try.func124 (by kernel_rfl) rfl
  have hown0 := hown
  rcases hown.2 with ⟨rfl, h0⟩ | ⟨g, cap, cur, rfl, hb, hg, hn, hm, hs, ht⟩
  · have hx : xs = [] := List.eq_nil_of_length_eq_zero h0
    subst hx
    have hcon := AnyF.slices_SortFunc_none Try.sortL none 0 (.func (.func 124) #[] #[]) w
    change Calls Try.prog 123 _ _ _ at hcon
    have Hown := Lib.hid hown0
    clear hown hown0 h0
    go_enter Try.func119, Try.ntmps119
    go_wp2_with (go_at_call 123; refine hcon.mono ?_; rintro e w' ⟨rfl, rfl⟩)
    go_end0
    exact ⟨rfl, [], List.Perm.refl _, fun i j hi => by simp at hi, Hown.out, ⟨rfl, rfl, rfl, Nat.le_refl _, fun _ _ _ => rfl⟩⟩
  · have hcon := AnyQ.slices_SortFunc Try.sortL 7 ed_agg ed_size encE (fun _ => rfl) (fun x v hv => by simp [encE] at hv; rcases hv with rfl | rfl | rfl | rfl | rfl | rfl | rfl <;> rfl) (fun x y => Lib.compareInt x.pl y.pl) swoPl 124 #[] g 0 cap xs.toArray w eg (fun _ _ _ _ x y => cmpEd_any x y _) (owns_holds hown0) (Array.getElem?_eq_some_iff.1 hg).1 (by simpa using hlen)
    change Calls Try.prog 123 _ _ _ at hcon
    simp only [List.size_toArray] at hcon
    have Hown := Lib.hid hown0
    clear hown hown0 hg hs ht
    go_enter Try.func119, Try.ntmps119
    go_wp2_with (go_at_call 123; refine hcon.mono ?_; rintro e w' ⟨rfl, d', n, os, hp, hso, rfl⟩)
    go_end0
    have hsz : d'.size = xs.length := by simpa using hp.1
    obtain ⟨ys⟩ := d'
    simp only [List.size_toArray] at hsz
    obtain ⟨h1, h2⟩ := owns_put (m := n) os Hown.out hsz
    refine ⟨rfl, ys, ?_, ?_, h1, h2⟩
    · have := hp.2.2
      have h3 : xs.take ys.length = xs := List.take_of_length_le (by omega)
      simpa [← hsz, h3] using this
    · intro i j hi hj hij
      have := hso i j (Nat.zero_le _) hij (by rw [hsz] at hj; exact hj)
      rw [ltPl] at this
      simp [hi, hj] at this
      exact this

end Go.Proofs.Ytajoipmchgabfaa
