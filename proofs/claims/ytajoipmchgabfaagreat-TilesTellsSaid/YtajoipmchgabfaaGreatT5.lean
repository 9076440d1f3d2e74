/- Several texts in one, each with its own head. -/
import Derived.Shelf.SlGeneric
import Derived.Shelf.SlSortCmp.WholeK
import Derived.Shelf.SlSortCmp.NoneTotal
import Derived.Shelf.SlicesQ.IndexFunc
import Derived.Shelf.SlicesG.Cmp
import Derived.Ground.SlsfProg
import Derived.Ground.SlgcProg
import Derived.Ground.SlgfProg
import Derived.Test.YtajoipmchgabfaaGreatProg
import Derived.Test.YtajoipmchgabfaaGreatT4
/- The library's sort, compare, index and contains, laid at this program: each field a fact of the program, compared by the kernel. -/
namespace Go.Proofs
open Go.Shelf
def Tryz.sortL_ren : Go.Shelf.Ren := ⟨fun | 6 => 93 | 15 => 43 | 14 => 97 | 28 => 60 | 29 => 61 | 20 => 98 | 21 => 99 | 22 => 100 | 23 => 101 | 24 => 102 | 25 => 103 | 26 => 104 | 27 => 105 | 46 => 106 | 47 => 72 | 48 => 73 | 49 => 107 | 50 => 108 | 57 => 109 | n => n, fun | 22 => 103 | 24 => 116 | 25 => 126 | 3 => 3 | 39 => 69 | 0 => 0 | 53 => 38 | 55 => 90 | 4 => 4 | 46 => 81 | 45 => 80 | 50 => 86 | 5 => 5 | 9 => 9 | 66 => 96 | 70 => 100 | 76 => 112 | 77 => 72 | n => n, fun | n => n⟩
theorem Tryz.sortL : Go.Proofs.SlLaysF0.n6 Tryz.prog Tryz.sortL_ren := {
  mixed := by kernel_rfl
  f6 := ⟨Tryz.f93.name, by decide, Tryz.func93.trans (congrArg some (by kernel_rfl))⟩
  f14 := ⟨Tryz.f97.name, by decide, Tryz.func97.trans (congrArg some (by kernel_rfl))⟩
  f15 := Tryz.func43.trans (congrArg some (by kernel_rfl))
  f20 := ⟨Tryz.f98.name, by decide, Tryz.func98.trans (congrArg some (by kernel_rfl))⟩
  f21 := ⟨Tryz.f99.name, by decide, Tryz.func99.trans (congrArg some (by kernel_rfl))⟩
  f22 := ⟨Tryz.f100.name, by decide, Tryz.func100.trans (congrArg some (by kernel_rfl))⟩
  f23 := ⟨Tryz.f101.name, by decide, Tryz.func101.trans (congrArg some (by kernel_rfl))⟩
  f24 := ⟨Tryz.f102.name, by decide, Tryz.func102.trans (congrArg some (by kernel_rfl))⟩
  f25 := ⟨Tryz.f103.name, by decide, Tryz.func103.trans (congrArg some (by kernel_rfl))⟩
  f26 := ⟨Tryz.f104.name, by decide, Tryz.func104.trans (congrArg some (by kernel_rfl))⟩
  f27 := ⟨Tryz.f105.name, by decide, Tryz.func105.trans (congrArg some (by kernel_rfl))⟩
  f28 := Tryz.func60.trans (congrArg some (by kernel_rfl))
  f29 := Tryz.func61.trans (congrArg some (by kernel_rfl))
  f46 := ⟨Tryz.f106.name, by decide, Tryz.func106.trans (congrArg some (by kernel_rfl))⟩
  f47 := Tryz.func72.trans (congrArg some (by kernel_rfl))
  f48 := Tryz.func73.trans (congrArg some (by kernel_rfl))
  f49 := ⟨Tryz.f107.name, by decide, Tryz.func107.trans (congrArg some (by kernel_rfl))⟩
  f50 := ⟨Tryz.f108.name, by decide, Tryz.func108.trans (congrArg some (by kernel_rfl))⟩
  f57 := ⟨Tryz.f109.name, by decide, Tryz.func109.trans (congrArg some (by kernel_rfl))⟩
  t0 := Tryz.underlying0
  a0 := Tryz.isAgg0
  z0 := Tryz.sizeOf0
  v0 := Tryz.zeroValue0
  t3 := Tryz.underlying3
  a3 := Tryz.isAgg3
  z3 := Tryz.sizeOf3
  v3 := Tryz.zeroValue3
  t4 := Tryz.underlying4
  a4 := Tryz.isAgg4
  z4 := Tryz.sizeOf4
  v4 := Tryz.zeroValue4
  t5 := Tryz.underlying5
  a5 := Tryz.isAgg5
  z5 := Tryz.sizeOf5
  v5 := Tryz.zeroValue5
  t9 := Tryz.underlying9
  a9 := Tryz.isAgg9
  z9 := Tryz.sizeOf9
  v9 := Tryz.zeroValue9
  t22 := Tryz.underlying103
  a22 := Tryz.isAgg103
  z22 := Tryz.sizeOf103
  v22 := Tryz.zeroValue103
  t25 := Tryz.underlying126
  a25 := Tryz.isAgg126
  z25 := Tryz.sizeOf126
  v25 := Tryz.zeroValue126
  t39 := Tryz.underlying69
  a39 := Tryz.isAgg69
  z39 := Tryz.sizeOf69
  v39 := Tryz.zeroValue69
  t45 := Tryz.underlying80
  a45 := Tryz.isAgg80
  z45 := Tryz.sizeOf80
  v45 := Tryz.zeroValue80
  t46 := Tryz.underlying81
  a46 := Tryz.isAgg81
  z46 := Tryz.sizeOf81
  v46 := Tryz.zeroValue81
  t50 := Tryz.underlying86
  a50 := Tryz.isAgg86
  z50 := Tryz.sizeOf86
  v50 := Tryz.zeroValue86
  t53 := Tryz.underlying38
  a53 := Tryz.isAgg38
  z53 := Tryz.sizeOf38
  v53 := Tryz.zeroValue38
  t55 := Tryz.underlying90
  a55 := Tryz.isAgg90
  z55 := Tryz.sizeOf90
  v55 := Tryz.zeroValue90
  t66 := Tryz.underlying96
  a66 := Tryz.isAgg96
  z66 := Tryz.sizeOf96
  v66 := Tryz.zeroValue96
  t70 := Tryz.underlying100
  a70 := Tryz.isAgg100
  z70 := Tryz.sizeOf100
  v70 := Tryz.zeroValue100
  t76 := Tryz.underlying112
  a76 := Tryz.isAgg112
  z76 := Tryz.sizeOf112
  v76 := Tryz.zeroValue112
  t77 := Tryz.underlying72
  a77 := Tryz.isAgg72
  z77 := Tryz.sizeOf72
  v77 := Tryz.zeroValue72 }
def Tryz.cmpL_ren : Go.Shelf.Ren := ⟨fun | 5 => 95 | 7 => 76 | n => n, fun | 22 => 3 | 3 => 3 | 4 => 4 | n => n, fun | n => n⟩
theorem Tryz.cmpL : Go.Proofs.SlLaysC2.n5 Tryz.prog Tryz.cmpL_ren := {
  mixed := by kernel_rfl
  f5 := ⟨Tryz.f95.name, by decide, Tryz.func95.trans (congrArg some (by kernel_rfl))⟩
  f7 := ⟨Tryz.f76.name, by decide, Tryz.func76.trans (congrArg some (by kernel_rfl))⟩
  t3 := Tryz.underlying3
  a3 := Tryz.isAgg3
  z3 := Tryz.sizeOf3
  v3 := Tryz.zeroValue3
  t4 := Tryz.underlying4
  a4 := Tryz.isAgg4
  z4 := Tryz.sizeOf4
  v4 := Tryz.zeroValue4
  t22 := Tryz.underlying3
  a22 := Tryz.isAgg3
  z22 := Tryz.sizeOf3
  v22 := Tryz.zeroValue3 }
def Tryz.idxL_ren : Go.Shelf.Ren := ⟨fun | 6 => 96 | n => n, fun | 22 => 103 | 23 => 116 | 25 => 122 | 3 => 3 | 0 => 0 | 4 => 4 | n => n, fun | n => n⟩
theorem Tryz.idxL : Go.Proofs.SlLaysH0.n6 Tryz.prog Tryz.idxL_ren := {
  mixed := by kernel_rfl
  f6 := ⟨Tryz.f96.name, by decide, Tryz.func96.trans (congrArg some (by kernel_rfl))⟩
  t0 := Tryz.underlying0
  a0 := Tryz.isAgg0
  z0 := Tryz.sizeOf0
  v0 := Tryz.zeroValue0
  t3 := Tryz.underlying3
  a3 := Tryz.isAgg3
  z3 := Tryz.sizeOf3
  v3 := Tryz.zeroValue3
  t4 := Tryz.underlying4
  a4 := Tryz.isAgg4
  z4 := Tryz.sizeOf4
  v4 := Tryz.zeroValue4
  t22 := Tryz.underlying103
  a22 := Tryz.isAgg103
  z22 := Tryz.sizeOf103
  v22 := Tryz.zeroValue103
  t25 := Tryz.underlying122
  a25 := Tryz.isAgg122
  z25 := Tryz.sizeOf122
  v25 := Tryz.zeroValue122 }
end Go.Proofs

/- region's sortEdges: a row of edges that the caller owns holds, behind the call, the same edges, sorted by place. -/
namespace Go.Proofs.YtajoipmchgabfaaGreat
open Go.RowKit Go.Shelf Go.Sort Go.Lib

def flatE (l : List Ed) : List Value := l.flatMap encE

theorem flatE_len (l : List Ed) : (flatE l).length = l.length * 7 := by
  induction l with
  | nil => rfl
  | cons e l ih => simp only [flatE, List.flatMap_cons, List.length_append, List.length_cons] at ih ⊢; rw [ih]; simp [encE]; omega

theorem flat_at {α : Type} {enc : α → List Value} {k : Nat} (hk : ∀ x, (enc x).length = k) (l : List α) (i j : Nat) (hj : j < k) : (l.flatMap enc)[i * k + j]? = l[i]?.bind (fun x => (enc x)[j]?) := by
  induction l generalizing i with
  | nil => simp
  | cons x l ih =>
    rw [List.flatMap_cons]
    cases i with
    | zero =>
      rw [Nat.zero_mul, Nat.zero_add, List.getElem?_append_left (by rw [hk]; exact hj)]
      simp
    | succ i =>
      rw [List.getElem?_append_right (by rw [hk, Nat.add_mul]; omega), hk, show (i + 1) * k + j - k = i * k + j by rw [Nat.add_mul]; omega, ih]
      simp

/-- What a slice owns it reads as. -/
theorem owns_row {α : Type} {enc : α → List Value} {k : Nat} (hk : ∀ x, (enc x).length = k) {W : World} {base : Nat} {e : TypeId} {v : Value} {xs : List α} (h : W.ownsRow base e k v xs.length (xs.flatMap enc)) : Row enc k W v xs := by
  rcases h.2 with ⟨rfl, h0⟩ | ⟨g, cap, cur, rfl, hb, hg, hn, hm, hs, ht⟩
  · have hx : xs = [] := List.eq_nil_of_length_eq_zero h0
    subst hx
    exact ⟨none, 0, rfl, by simp, by simp [maxLen], .inl ⟨rfl, rfl⟩⟩
  · refine ⟨some ⟨g, 0, none⟩, cap, rfl, hn, hm, .inr ⟨g, 0, rfl, (Array.getElem?_eq_some_iff.1 hg).1, fun i x hi j u hj => ?_⟩⟩
    have hjk : j < k := by have := (List.getElem?_eq_some_iff.1 hj).1; rw [hk] at this; exact this
    have h1 := flat_at hk xs i j hjk
    rw [hi] at h1
    simp only [Option.bind_some] at h1
    rw [hj, ← ht, List.getElem?_take] at h1
    split at h1
    · simp only [Nat.zero_add]
      rw [cell_of_row W g (i * k + j) cur e (0, 0) hg]
      simpa using h1
    · cases h1

theorem owns_holds {W : World} {base : Nat} {e : TypeId} {g cap : Nat} {xs : List Ed} (h : W.ownsRow base e 7 (.slice (some ⟨g, 0, none⟩) xs.length cap) xs.length (flatE xs)) : HoldsK encE 7 W g 0 xs.toArray := by
  obtain ⟨p, cap', hv, -, -, hr⟩ := owns_row (enc := encE) (k := 7) (fun _ => rfl) h
  cases hv
  rcases h.2 with ⟨h0, _⟩ | ⟨g', cap', cur, h0, hb, hg, hn, hm, hs, ht⟩
  · cases h0
  · cases h0
    intro t hlt
    rw [size_flatK] at hlt
    simp only [List.size_toArray] at hlt
    rw [get_flatK _ _ _ _ (by simpa using hlt)]
    rcases hr with ⟨h1, _⟩ | ⟨b', off', h1, _, hc⟩
    · cases h1
    · cases h1
      have hi : t / 7 < xs.length := by omega
      have hj : t % 7 < 7 := by omega
      have h2 := hc (t / 7) xs[t / 7] (List.getElem?_eq_getElem hi) (t % 7) ((encE xs[t / 7])[t % 7]'(by exact hj)) (List.getElem?_eq_getElem _)
      rw [show 0 + t / 7 * 7 + t % 7 = 0 + t by omega] at h2
      refine ⟨?_, ?_⟩
      · rw [h2]
        simp [hi]
        rw [List.getElem?_eq_getElem (by exact hj)]
        rfl
      · simp [World.frozen?, hg]

theorem ltPl (x y : Ed) : ltOf (fun x y : Ed => Lib.compareInt x.pl y.pl) x y = decide (x.pl < y.pl) := by
  unfold ltOf Lib.compareInt
  by_cases h1 : x.pl < y.pl
  · simp [h1]
  · by_cases h2 : y.pl < x.pl <;> simp [h1, h2]

theorem swoPl : SWO (ltOf fun x y : Ed => Lib.compareInt x.pl y.pl) where
  irrefl x := by rw [ltPl]; simp
  trans x y z h1 h2 := by rw [ltPl] at *; simp at *; omega
  ntrans x y z h1 h2 := by rw [ltPl] at *; simp at *; omega

set_option maxHeartbeats 1000000 in
theorem cmpEd_any (x y : Ed) (W : World) : Calls Tryz.prog 94 #[EV x, EV y] W fun e w' => e = .returned (.int .i64 (Lib.compareInt x.pl y.pl)) ∧ ∃ q os', w' = grow (W.drewN q) os' := by
  have hcon := fun W' => AnyG.cmp_Compare_int Tryz.cmpL x.pl y.pl W'
  change ∀ W', Calls Tryz.prog 95 _ _ _ at hcon
  generalize Lib.compareInt x.pl y.pl = r at hcon ⊢
  go_enter Tryz.func94, Tryz.ntmps94
  go_wp2_with (go_at_call 95; refine (hcon _).mono ?_; rintro e w' ⟨rfl, rfl⟩)
  go_ret
  exact ⟨rfl, 0, _, by rw [alloc_eq_grow, alloc_eq_grow, grow_grow]; rfl⟩

theorem ed_agg : ∀ w, (isAgg 116).run Tryz.prog w = .ok true w := fun _ => by kernel_rfl
theorem ed_size : ∀ w, (Go.sizeOf 116).run Tryz.prog w = .ok 7 w := fun _ => by kernel_rfl

/-- The edges of l, by place. -/
def SortedPl (l : List Ed) : Prop := ∀ i j (hi : i < l.length) (hj : j < l.length), i < j → l[i].pl ≤ l[j].pl

theorem flatK_list (d : Array Ed) (t : Nat) (h : t < d.size * 7) : (flatE d.toList)[t]? = some (flatK encE 7 d)[t]! := by
  have h1 := flat_at (enc := encE) (k := 7) (fun _ => rfl) d.toList (t / 7) (t % 7) (by omega)
  rw [show t / 7 * 7 + t % 7 = t by omega] at h1
  have hi : t / 7 < d.size := by omega
  have hj : t % 7 < (encE d[t / 7]).length := by show t % 7 < 7; omega
  rw [get_flatK _ _ _ _ h]
  unfold flatE
  rw [h1]
  rw [getElem!_pos d (t / 7) hi, getElem!_pos (encE d[t / 7]) (t % 7) hj]
  simp only [Array.getElem?_toList, Array.getElem?_eq_getElem hi, Option.bind_some]
  rw [List.getElem?_eq_getElem hj]

/-- A row that is laid anew. -/
theorem owns_put {W : World} {base : Nat} {e : TypeId} {g cap m : Nat} {xs ys : List Ed} (os : Array Obj) (h : W.ownsRow base e 7 (.slice (some ⟨g, 0, none⟩) xs.length cap) xs.length (flatE xs)) (hl : ys.length = xs.length) :
    (sortWorldK encE 7 W g 0 m ys.toArray os).ownsRow base e 7 (.slice (some ⟨g, 0, none⟩) xs.length cap) xs.length (flatE ys) ∧ W.grownBy (sortWorldK encE 7 W g 0 m ys.toArray os) (some g) := by
  rcases h.2 with ⟨h0, _⟩ | ⟨g', cap', cur, h0, hb, hg, hn, hm, hs, ht⟩
  · cases h0
  · cases h0
    have hlt := (Array.getElem?_eq_some_iff.1 hg).1
    have hsz : (W.heap.modify g (onCells (putCells id 0 (flatK encE 7 ys.toArray)))).size = W.heap.size := Array.size_modify
    have hh : (sortWorldK encE 7 W g 0 m ys.toArray os).heap[g]? = some (.cells (putCells id 0 (flatK encE 7 ys.toArray) cur) e (0, 0)) := by
      show ((W.heap.modify g (onCells (putCells id 0 (flatK encE 7 ys.toArray)))) ++ os)[g]? = _
      rw [Array.getElem?_append_left (by rw [hsz]; exact hlt), Array.getElem?_modify, if_pos rfl, hg]
      rfl
    have hfl : (flatE ys).length = xs.length * 7 := by rw [flatE_len, hl]
    refine ⟨⟨hfl, .inr ⟨g, cap, _, rfl, hb, hh, hn, hm, by simp [putCells, hs], ?_⟩⟩, rfl, rfl, rfl, ?_, fun k hk hne => ?_⟩
    · refine List.ext_getElem? fun t => ?_
      rw [List.getElem?_take]
      split
      · rename_i htl
        have h1 := flatK_list ys.toArray t (by simp; omega)
        simp only at h1
        rw [h1]
        have hc : t < cur.size := by have : xs.length * 7 ≤ cap * 7 := Nat.mul_le_mul_right 7 hn; omega
        simp [putCells, hc]
        omega
      · rw [List.getElem?_eq_none (by omega)]
    · show W.heap.size ≤ ((W.heap.modify g _) ++ os).size
      rw [Array.size_append, hsz]; omega
    · show ((W.heap.modify g _) ++ os)[k]? = _
      rw [Array.getElem?_append_left (by rw [hsz]; exact hk), Array.getElem?_modify, if_neg (fun e => hne (by rw [e]))]

set_option maxHeartbeats 1000000 in
theorem sortEdges_any (base : Nat) (v : Value) (xs : List Ed) (w : World) (hlen : xs.length < 4611686018427387904) (hown : w.ownsRow base 116 7 v xs.length (flatE xs)) :
    Calls Tryz.prog 89 #[v] w fun e w' => e = .returned (.tuple #[]) ∧ ∃ ys : List Ed, ys.Perm xs ∧ SortedPl ys ∧ w'.ownsRow base 116 7 v xs.length (flatE ys) ∧ w.grownBy w' v.ownBlock := by
  have eg : ∀ args w, (callFunc 94 args).run Tryz.prog w = .ok (.enter 94 args) w := enters_of Tryz.func94 (by kernel_rfl) rfl
  have hown0 := hown
  rcases hown.2 with ⟨rfl, h0⟩ | ⟨g, cap, cur, rfl, hb, hg, hn, hm, hs, ht⟩
  · have hx : xs = [] := List.eq_nil_of_length_eq_zero h0
    subst hx
    have hcon := AnyF.slices_SortFunc_none Tryz.sortL none 0 (.func (.func 94) #[] #[]) w
    change Calls Tryz.prog 93 _ _ _ at hcon
    have Hown := Lib.hid hown0
    clear hown hown0 h0
    go_enter Tryz.func89, Tryz.ntmps89
    go_wp2_with (go_at_call 93; refine hcon.mono ?_; rintro e w' ⟨rfl, rfl⟩)
    go_end0
    exact ⟨rfl, [], List.Perm.refl _, fun i j hi => by simp at hi, Hown.out, ⟨rfl, rfl, rfl, Nat.le_refl _, fun _ _ _ => rfl⟩⟩
  · have hcon := AnyQ.slices_SortFunc Tryz.sortL 7 ed_agg ed_size encE (fun _ => rfl) (fun x v hv => by simp [encE] at hv; rcases hv with rfl | rfl | rfl | rfl | rfl | rfl | rfl <;> rfl) (fun x y => Lib.compareInt x.pl y.pl) swoPl 94 #[] g 0 cap xs.toArray w eg (fun _ _ _ _ x y => cmpEd_any x y _) (owns_holds hown0) (Array.getElem?_eq_some_iff.1 hg).1 (by simpa using hlen)
    change Calls Tryz.prog 93 _ _ _ at hcon
    simp only [List.size_toArray] at hcon
    have Hown := Lib.hid hown0
    clear hown hown0 hg hs ht
    go_enter Tryz.func89, Tryz.ntmps89
    go_wp2_with (go_at_call 93; refine hcon.mono ?_; rintro e w' ⟨rfl, d', n, os, hp, hso, rfl⟩)
    go_end0
    have hsz : d'.size = xs.length := by simpa using hp.1
    obtain ⟨ys⟩ := d'
    simp only [List.size_toArray] at hsz
    obtain ⟨h1, h2⟩ := owns_put (m := n) os Hown.out hsz
    refine ⟨rfl, ys, ?_, ?_, h1, h2⟩
    · have := hp.2.2
      have h3 : xs.take ys.length = xs := List.take_of_length_le (by omega)
      simpa [← hsz, h3] using this
    · intro i j hi hj hij
      have := hso i j (Nat.zero_le _) hij (by rw [hsz] at hj; exact hj)
      rw [ltPl] at this
      simp [hi, hj] at this
      exact this

end Go.Proofs.YtajoipmchgabfaaGreat
