/- Several texts in one, each with its own head. -/
import Derived.Test.YtjigdgfanpeibaaTC6
import Derived.Test.YtjigdgfanpeibaaTC4
import Derived.OwnWalkIn
import Derived.Maps.AppendAt
/- region's sortEdges: a row of edges that the caller owns holds, behind the call, the same edges, sorted by place. -/
namespace Go.Proofs.Ytjigdgfanpeibaa
open Go.RowKit Go.Shelf Go.Sort Go.Lib

def flatE (l : List Ed) : List Value := l.flatMap encE

theorem flatE_len (l : List Ed) : (flatE l).length = l.length * 7 := by
  induction l with
  | nil => rfl
  | cons e l ih => simp only [flatE, List.flatMap_cons, List.length_append, List.length_cons] at ih ⊢; rw [ih]; simp [encE]; omega

theorem flat_at {α : Type} {enc : α → List Value} {k : Nat} (hk : ∀ x, (enc x).length = k) (l : List α) (i j : Nat) (hj : j < k) : (l.flatMap enc)[i * k + j]? = l[i]?.bind (fun x => (enc x)[j]?) := by
  induction l generalizing i with
  | nil => simp
  | cons x l ih =>
    rw [List.flatMap_cons]
    cases i with
    | zero =>
      rw [Nat.zero_mul, Nat.zero_add, List.getElem?_append_left (by rw [hk]; exact hj)]
      simp
    | succ i =>
      rw [List.getElem?_append_right (by rw [hk, Nat.add_mul]; omega), hk, show (i + 1) * k + j - k = i * k + j by rw [Nat.add_mul]; omega, ih]
      simp

/-- What a slice owns it reads as. -/
theorem owns_row {α : Type} {enc : α → List Value} {k : Nat} (hk : ∀ x, (enc x).length = k) {W : World} {base : Nat} {e : TypeId} {v : Value} {xs : List α} (h : W.ownsRow base e k v xs.length (xs.flatMap enc)) : Row enc k W v xs := by
  rcases h.2 with ⟨rfl, h0⟩ | ⟨g, cap, cur, rfl, hb, hg, hn, hm, hs, ht⟩
  · have hx : xs = [] := List.eq_nil_of_length_eq_zero h0
    subst hx
    exact ⟨none, 0, rfl, by simp, by simp [maxLen], .inl ⟨rfl, rfl⟩⟩
  · refine ⟨some ⟨g, 0, none⟩, cap, rfl, hn, hm, .inr ⟨g, 0, rfl, (Array.getElem?_eq_some_iff.1 hg).1, fun i x hi j u hj => ?_⟩⟩
    have hjk : j < k := by have := (List.getElem?_eq_some_iff.1 hj).1; rw [hk] at this; exact this
    have h1 := flat_at hk xs i j hjk
    rw [hi] at h1
    simp only [Option.bind_some] at h1
    rw [hj, ← ht, List.getElem?_take] at h1
    split at h1
    · simp only [Nat.zero_add]
      rw [cell_of_row W g (i * k + j) cur e (0, 0) hg]
      simpa using h1
    · cases h1

theorem owns_holds {W : World} {base : Nat} {e : TypeId} {g cap : Nat} {xs : List Ed} (h : W.ownsRow base e 7 (.slice (some ⟨g, 0, none⟩) xs.length cap) xs.length (flatE xs)) : HoldsK encE 7 W g 0 xs.toArray := by
  obtain ⟨p, cap', hv, -, -, hr⟩ := owns_row (enc := encE) (k := 7) (fun _ => rfl) h
  cases hv
  rcases h.2 with ⟨h0, _⟩ | ⟨g', cap', cur, h0, hb, hg, hn, hm, hs, ht⟩
  · cases h0
  · cases h0
    intro t hlt
    rw [size_flatK] at hlt
    simp only [List.size_toArray] at hlt
    rw [get_flatK _ _ _ _ (by simpa using hlt)]
    rcases hr with ⟨h1, _⟩ | ⟨b', off', h1, _, hc⟩
    · cases h1
    · cases h1
      have hi : t / 7 < xs.length := by omega
      have hj : t % 7 < 7 := by omega
      have h2 := hc (t / 7) xs[t / 7] (List.getElem?_eq_getElem hi) (t % 7) ((encE xs[t / 7])[t % 7]'(by exact hj)) (List.getElem?_eq_getElem _)
      rw [show 0 + t / 7 * 7 + t % 7 = 0 + t by omega] at h2
      refine ⟨?_, ?_⟩
      · rw [h2]
        simp [hi]
        rw [List.getElem?_eq_getElem (by exact hj)]
        rfl
      · simp [World.frozen?, hg]

theorem ltPl (x y : Ed) : ltOf (fun x y : Ed => Lib.compareInt x.pl y.pl) x y = decide (x.pl < y.pl) := by
  unfold ltOf Lib.compareInt
  by_cases h1 : x.pl < y.pl
  · simp [h1]
  · by_cases h2 : y.pl < x.pl <;> simp [h1, h2]

theorem swoPl : SWO (ltOf fun x y : Ed => Lib.compareInt x.pl y.pl) where
  irrefl x := by rw [ltPl]; simp
  trans x y z h1 h2 := by rw [ltPl] at *; simp at *; omega
  ntrans x y z h1 h2 := by rw [ltPl] at *; simp at *; omega

set_option maxHeartbeats 1000000 in
theorem cmpEd_any (x y : Ed) (W : World) : Calls Try.prog 133 #[EV x, EV y] W fun e w' => e = .returned (.int .i64 (Lib.compareInt x.pl y.pl)) ∧ ∃ q os', w' = grow (W.drewN q) os' := by
  have hcon := fun W' => AnyG.cmp_Compare_int Try.cmpL x.pl y.pl W'
  change ∀ W', Calls Try.prog 134 _ _ _ at hcon
  generalize Lib.compareInt x.pl y.pl = r at hcon ⊢
  go_enter Try.func133, Try.ntmps133
  go_wp2_with (go_at_call 134; refine (hcon _).mono ?_; rintro e w' ⟨rfl, rfl⟩)
  go_ret
  exact ⟨rfl, 0, _, by rw [alloc_eq_grow, alloc_eq_grow, grow_grow]; rfl⟩

theorem ed_agg : ∀ w, (isAgg 151).run Try.prog w = .ok true w := fun _ => by kernel_rfl
theorem ed_size : ∀ w, (Go.sizeOf 151).run Try.prog w = .ok 7 w := fun _ => by kernel_rfl

/-- The edges of l, by place. -/
def SortedPl (l : List Ed) : Prop := ∀ i j (hi : i < l.length) (hj : j < l.length), i < j → l[i].pl ≤ l[j].pl

theorem flatK_list (d : Array Ed) (t : Nat) (h : t < d.size * 7) : (flatE d.toList)[t]? = some (flatK encE 7 d)[t]! := by
  have h1 := flat_at (enc := encE) (k := 7) (fun _ => rfl) d.toList (t / 7) (t % 7) (by omega)
  rw [show t / 7 * 7 + t % 7 = t by omega] at h1
  have hi : t / 7 < d.size := by omega
  have hj : t % 7 < (encE d[t / 7]).length := by show t % 7 < 7; omega
  rw [get_flatK _ _ _ _ h]
  unfold flatE
  rw [h1]
  rw [getElem!_pos d (t / 7) hi, getElem!_pos (encE d[t / 7]) (t % 7) hj]
  simp only [Array.getElem?_toList, Array.getElem?_eq_getElem hi, Option.bind_some]
  rw [List.getElem?_eq_getElem hj]

/-- A row that is laid anew. -/
theorem owns_put {W : World} {base : Nat} {e : TypeId} {g cap m : Nat} {xs ys : List Ed} (os : Array Obj) (h : W.ownsRow base e 7 (.slice (some ⟨g, 0, none⟩) xs.length cap) xs.length (flatE xs)) (hl : ys.length = xs.length) :
    (sortWorldK encE 7 W g 0 m ys.toArray os).ownsRow base e 7 (.slice (some ⟨g, 0, none⟩) xs.length cap) xs.length (flatE ys) ∧ W.grownBy (sortWorldK encE 7 W g 0 m ys.toArray os) (some g) := by
  rcases h.2 with ⟨h0, _⟩ | ⟨g', cap', cur, h0, hb, hg, hn, hm, hs, ht⟩
  · cases h0
  · cases h0
    have hlt := (Array.getElem?_eq_some_iff.1 hg).1
    have hsz : (W.heap.modify g (onCells (putCells id 0 (flatK encE 7 ys.toArray)))).size = W.heap.size := Array.size_modify
    have hh : (sortWorldK encE 7 W g 0 m ys.toArray os).heap[g]? = some (.cells (putCells id 0 (flatK encE 7 ys.toArray) cur) e (0, 0)) := by
      show ((W.heap.modify g (onCells (putCells id 0 (flatK encE 7 ys.toArray)))) ++ os)[g]? = _
      rw [Array.getElem?_append_left (by rw [hsz]; exact hlt), Array.getElem?_modify, if_pos rfl, hg]
      rfl
    have hfl : (flatE ys).length = xs.length * 7 := by rw [flatE_len, hl]
    refine ⟨⟨hfl, .inr ⟨g, cap, _, rfl, hb, hh, hn, hm, by simp [putCells, hs], ?_⟩⟩, rfl, rfl, rfl, ?_, fun k hk hne => ?_⟩
    · refine List.ext_getElem? fun t => ?_
      rw [List.getElem?_take]
      split
      · rename_i htl
        have h1 := flatK_list ys.toArray t (by simp; omega)
        simp only at h1
        rw [h1]
        have hc : t < cur.size := by have : xs.length * 7 ≤ cap * 7 := Nat.mul_le_mul_right 7 hn; omega
        simp [putCells, hc]
        omega
      · rw [List.getElem?_eq_none (by omega)]
    · show W.heap.size ≤ ((W.heap.modify g _) ++ os).size
      rw [Array.size_append, hsz]; omega
    · show ((W.heap.modify g _) ++ os)[k]? = _
      rw [Array.getElem?_append_left (by rw [hsz]; exact hk), Array.getElem?_modify, if_neg (fun e => hne (by rw [e]))]

set_option maxHeartbeats 1000000 in
theorem sortEdges_any (base : Nat) (v : Value) (xs : List Ed) (w : World) (hlen : xs.length < 4611686018427387904) (hown : w.ownsRow base 151 7 v xs.length (flatE xs)) :
    Calls Try.prog 122 #[v] w fun e w' => e = .returned (.tuple #[]) ∧ ∃ ys : List Ed, ys.Perm xs ∧ SortedPl ys ∧ w'.ownsRow base 151 7 v xs.length (flatE ys) ∧ w.grownBy w' v.ownBlock := by
  have eg : ∀ args w, (callFunc 133 args).run Try.prog w = .ok (.enter 133 args) w := enters_of Try.func133 (by kernel_rfl) rfl
  have hown0 := hown
  rcases hown.2 with ⟨rfl, h0⟩ | ⟨g, cap, cur, rfl, hb, hg, hn, hm, hs, ht⟩
  · have hx : xs = [] := List.eq_nil_of_length_eq_zero h0
    subst hx
    have hcon := AnyF.slices_SortFunc_none Try.sortL none 0 (.func (.func 133) #[] #[]) w
    change Calls Try.prog 132 _ _ _ at hcon
    have Hown := Lib.hid hown0
    clear hown hown0 h0
    go_enter Try.func122, Try.ntmps122
    go_wp2_with (go_at_call 132; refine hcon.mono ?_; rintro e w' ⟨rfl, rfl⟩)
    go_end0
    exact ⟨rfl, [], List.Perm.refl _, fun i j hi => by simp at hi, Hown.out, ⟨rfl, rfl, rfl, Nat.le_refl _, fun _ _ _ => rfl⟩⟩
  · have hcon := AnyQ.slices_SortFunc Try.sortL 7 ed_agg ed_size encE (fun _ => rfl) (fun x v hv => by simp [encE] at hv; rcases hv with rfl | rfl | rfl | rfl | rfl | rfl | rfl <;> rfl) (fun x y => Lib.compareInt x.pl y.pl) swoPl 133 #[] g 0 cap xs.toArray w eg (fun _ _ _ _ x y => cmpEd_any x y _) (owns_holds hown0) (Array.getElem?_eq_some_iff.1 hg).1 (by simpa using hlen)
    change Calls Try.prog 132 _ _ _ at hcon
    simp only [List.size_toArray] at hcon
    have Hown := Lib.hid hown0
    clear hown hown0 hg hs ht
    go_enter Try.func122, Try.ntmps122
    go_wp2_with (go_at_call 132; refine hcon.mono ?_; rintro e w' ⟨rfl, d', n, os, hp, hso, rfl⟩)
    go_end0
    have hsz : d'.size = xs.length := by simpa using hp.1
    obtain ⟨ys⟩ := d'
    simp only [List.size_toArray] at hsz
    obtain ⟨h1, h2⟩ := owns_put (m := n) os Hown.out hsz
    refine ⟨rfl, ys, ?_, ?_, h1, h2⟩
    · have := hp.2.2
      have h3 : xs.take ys.length = xs := List.take_of_length_le (by omega)
      simpa [← hsz, h3] using this
    · intro i j hi hj hij
      have := hso i j (Nat.zero_le _) hij (by rw [hsz] at hj; exact hj)
      rw [ltPl] at this
      simp [hi, hj] at this
      exact this

end Go.Proofs.Ytjigdgfanpeibaa

/- append: where the new slice lies, and a source that may be nil. Nothing here speaks of one program. -/
namespace Go.Proofs.Ytjigdgfanpeibaa
open Go.RowKit

section
variable {P : Program} (w : World)

/-- append: the answer owns the longer row; it lies where the old one lay, or in a new block. -/
theorem run_append_mine (base : Nat) (t ty e : TypeId) (i : TypeInfo) (z : Value) (size bytes : Nat) (ht : P.underlying t = some (.slice e)) (hi : P.info? e = some i) (hz : i.zero = some z)
    (hsize : i.size = size) (hby : i.bytes = bytes) (hzs : z.cells.size = size) (hsz : 0 < size)
    (v : Value) (n : Nat) (xs : List Value) (hown : w.ownsRow base e size v n xs)
    (p : Option Addr) (m c : Nat) (news : List Value) (hl : news.length = m * size) (hnews : (p = none ∧ m = 0 ∧ c = 0) ∨ ∃ a, p = some a ∧ ∀ j u, news[j]? = some u → w.cell? (a.add j) = some u) (h1 : ∀ u ∈ news, u.oneCell' = true)
    (h63 : n + m ≤ maxLen) (hbytes : (n + m) * bytes ≤ 140737488355328) (hbase : base ≤ w.heap.size) :
    ∃ v' w', (Builtin.append_ #[t, t] ty #[v, .slice p m c]).run P w = .ok v' w' ∧ w'.ownsRow base e size v' (n + m) (xs ++ news) ∧ w.grownBy w' v.ownBlock ∧ (∀ k, v'.ownBlock = some k → v.ownBlock = some k ∨ w.heap.size ≤ k) := by
  rcases hnews with ⟨rfl, rfl, rfl⟩ | ⟨a, rfl, hnews⟩
  · have hn : news = [] := List.eq_nil_of_length_eq_zero (by simpa using hl)
    subst hn
    refine ⟨v, w, ?_, by simpa using hown, ⟨rfl, rfl, rfl, Nat.le_refl _, fun _ _ _ => rfl⟩, fun k hk => .inl hk⟩
    rcases hown.2 with ⟨rfl, rfl⟩ | ⟨g, cap, cur, rfl, hbg, hg, hnc, hcm, hcs, htake⟩
    · simp [Builtin.append_, run_underlying ht, sizeOf, typeInfo, hi, Builtin.lenOf, Builtin.firstCells]
    · simp [Builtin.append_, run_underlying ht, sizeOf, typeInfo, hi, Builtin.lenOf, Builtin.firstCells, hnc, storeCells]
  · obtain ⟨v', w', hr, h2, h3, h4⟩ := run_append_own (P := P) w base t ty e i z size bytes ht hi hz hsize hby hzs hsz v n xs hown a m c news hl hnews h1 h63 hbytes hbase
    refine ⟨v', w', hr, h2, h3, ?_⟩
    rcases hown.2 with ⟨rfl, rfl⟩ | ⟨g, cap, cur, rfl, hbg, hg, hnc, hcm, hcs, htake⟩
    · obtain ⟨v2, w2, hr2, k2, _, _⟩ := run_append_own (P := P) w w.heap.size t ty e i z size bytes ht hi hz hsize hby hzs hsz _ 0 [] (World.ownsRow_nil w _ e size) a m c news hl hnews h1 h63 hbytes (Nat.le_refl _)
      rw [hr] at hr2
      cases hr2
      exact fun k hk => .inr (k2.lt k hk).1
    · subst hsize
      subst hby
      by_cases hroom : n + m ≤ cap
      · have hfit : n * i.size + news.length ≤ cur.size := by rw [hl, hcs, ← Nat.add_mul]; exact Nat.mul_le_mul_right _ hroom
        have hr2 := run_append_room (P := P) w t ty e i ht hi g n cap cur hg a m c news hl hnews h1 hroom hfit
        rw [hr] at hr2
        cases hr2
        exact fun k hk => .inl hk
      · have holds : ∀ j u, xs[j]? = some u → w.cell? ((⟨g, 0, none⟩ : Addr).add j) = some u := hown.cells (g := g) rfl
        have hr2 := run_append_grow (P := P) w t ty e i z ht hi hz ⟨g, 0, none⟩ n cap xs hown.1 holds a m c news hl hnews (by omega) (by simp only [maxLen] at h63; omega) (growslice_fits (by omega) hbytes)
        rw [hr] at hr2
        cases hr2
        exact fun k hk => .inr (by cases hk; exact Nat.le_refl _)
end

theorem wpList_append_mine {P : Program} (w : World) {ops : Array Oper} {rest : List Oper} {o : Oper} {a : Act} {Q : Exit → Act → World → Prop} (hgd : o.guard = none) (s x : Operand) (t : TypeId)
    (ho : o.op = .call { callee := .builtin .append, args := #[s, x], argTypes := #[t, t] })
    (base : Nat) (e : TypeId) (i : TypeInfo) (z : Value) (size bytes : Nat) (ht : P.underlying t = some (.slice e)) (hi : P.info? e = some i) (hz : i.zero = some z)
    (hsize : i.size = size) (hby : i.bytes = bytes) (hzs : z.cells.size = size) (hsz : 0 < size)
    (v : Value) (n : Nat) (xs : List Value) (hs : a.eval s = v) (hown : w.ownsRow base e size v n xs)
    (p : Option Addr) (m c : Nat) (news : List Value) (hx : a.eval x = .slice p m c) (hl : news.length = m * size) (hnews : (p = none ∧ m = 0 ∧ c = 0) ∨ ∃ ad, p = some ad ∧ ∀ j u, news[j]? = some u → w.cell? (ad.add j) = some u) (h1 : ∀ u ∈ news, u.oneCell' = true)
    (h63 : n + m ≤ maxLen) (hbytes : (n + m) * bytes ≤ 140737488355328) (hbase : base ≤ w.heap.size)
    (h : ∀ v' w', w'.ownsRow base e size v' (n + m) (xs ++ news) → w.grownBy w' v.ownBlock → (∀ k, v'.ownBlock = some k → v.ownBlock = some k ∨ w.heap.size ≤ k) → wpList P ops Q rest (a.put o.dst v') w') : wpList P ops Q (o :: rest) a w :=
  wpList_plain hgd fun _ hK => by
    obtain ⟨v', w', hr, h2, h3, h4⟩ := run_append_mine (P := P) w base t o.type e i z size bytes ht hi hz hsize hby hzs hsz v n xs hown p m c news hl hnews h1 h63 hbytes hbase
    unfold Oper.wp execOp
    simp only [ho, resolve, invoke, builtin, Sem.run_bind, Sem.run_pure, Result.andThen_ok, List.map_toArray, List.map_cons, List.map_nil, hs, hx, hr]
    exact hK _ _ (h v' w' h2 h3 h4)

theorem wpListIn_append_mine {F : Fence} {n : Nat} {P : Program} (w : World) {ops : Array Oper} {rest : List Oper} {o : Oper} {a : Act} {Q : Exit → Act → World → Prop}
    (hg : o.guard = none) (s x : Operand) (t : TypeId) (hop : o.op = Op.call { callee := Callee.builtin Builtin.append, args := #[s, x], argTypes := #[t, t] })
    (base : Nat) (e : TypeId) (i : TypeInfo) (z : Value) (size bytes : Nat) (h1 : P.underlying t = some (.slice e)) (h2 : P.info? e = some i) (h3 : i.zero = some z) (h4 : i.size = size) (h5 : i.bytes = bytes) (h6 : z.cells.size = size) (h7 : 0 < size)
    (v : Value) (k : Nat) (xs : List Value) (hs : a.eval s = v) (hown : w.ownsRow base e size v k xs) (p : Option Addr) (m c : Nat) (news : List Value) (hx : a.eval x = .slice p m c) (hn : news.length = m * size)
    (hc : (p = none ∧ m = 0 ∧ c = 0) ∨ ∃ ad, p = some ad ∧ ∀ j u, news[j]? = some u → w.cell? (ad.add j) = some u) (h1c : ∀ u ∈ news, u.oneCell' = true) (b1 : k + m ≤ maxLen) (b2 : (k + m) * bytes ≤ 140737488355328) (b3 : base ≤ w.heap.size)
    (hK : ∀ v' w', w'.ownsRow base e size v' (k + m) (xs ++ news) → w.grownBy w' v.ownBlock → (∀ k, v'.ownBlock = some k → v.ownBlock = some k ∨ w.heap.size ≤ k) → wpListIn F n P ops Q rest (a.put o.dst v') w') :
    wpListIn F n P ops Q (o :: rest) a w := by
  refine wpListIn_plain hg fun K hK' => ?_
  obtain ⟨v', w', hrun, r1, r2, r3⟩ := run_append_mine (P := P) w base t o.type e i z size bytes h1 h2 h3 h4 h5 h6 h7 v k xs hown p m c news hn hc h1c b1 b2 b3
  unfold Oper.wpIn
  refine ⟨?_, ?_⟩
  · simp [Oper.about, hop, resolve, Target.leads, Sem.run_pure]
  · rw [Oper.semAt_plain F _ _ (by rw [hop]; intro c hc'; cases hc')]
    simp [execOp, hop, resolve, invoke, builtin, hs, hx, hrun, Result.andThen]
    exact hK' _ _ (hK v' w' r1 r2 r3)

theorem news_cells {w : World} {c : List Value} {t : TypeId} : ∀ j u, c[j]? = some u → (w.alloc (.cells c.toArray t)).cell? ((⟨w.heap.size, 0, none⟩ : Addr).add j) = some u := fun j u hj => by
  rw [Addr.add_lit, Nat.zero_add, World.cell?_alloc_at _ _ _ _ rfl]
  simpa using hj

/-- append of one element, which lies in a new block: where the answer lies. -/
theorem wpList_append_one {P : Program} (w : World) {ops : Array Oper} {rest : List Oper} {o : Oper} {a : Act} {Q : Exit → Act → World → Prop} (hgd : o.guard = none) (s x : Operand) (t : TypeId)
    (ho : o.op = .call { callee := .builtin .append, args := #[s, x], argTypes := #[t, t] })
    (base : Nat) (e : TypeId) (z : Value) (bytes : Nat) (hinfo : (P.info? e).map (fun i => (i.zero, i.size, i.bytes)) = some (some z, 1, bytes)) (ht : P.underlying t = some (.slice e)) (hzs : z.cells.size = 1)
    (v : Value) (n : Nat) (xs : List Value) (hs : a.eval s = v) (hown : w.ownsRow base e 1 v n xs) (u : Value) (te : TypeId) (hx : a.eval x = .slice (some ⟨w.heap.size, 0, none⟩) 1 1) (hu : u.oneCell' = true)
    (h63 : n + 1 ≤ maxLen) (hbytes : (n + 1) * bytes ≤ 140737488355328) (hbase : base ≤ w.heap.size)
    (h : ∀ g cap w', w'.ownsRow base e 1 (.slice (some ⟨g, 0, none⟩) (n + 1) cap) (n + 1) (xs ++ [u]) → Turns (fun b => v.ownBlock = some b) w w' → (v.ownBlock = some g ∨ w.heap.size ≤ g) → wpList P ops Q rest (a.put o.dst (.slice (some ⟨g, 0, none⟩) (n + 1) cap)) w') :
    wpList P ops Q (o :: rest) a (w.alloc (.cells #[u] te)) := by
  obtain ⟨i, hi, hz, hsz, hby⟩ := info_parts hinfo
  refine wpList_append_mine (P := P) (w.alloc (.cells #[u] te)) hgd s x t ho base e i z 1 bytes ht hi hz hsz hby hzs (by decide) v n xs hs (hown.alloc _) (some ⟨w.heap.size, 0, none⟩) 1 1 [u] hx rfl (.inr ⟨_, rfl, news_cells (c := [u])⟩)
    (fun q hq => by rcases List.mem_singleton.1 hq with rfl; exact hu) h63 hbytes (by rw [World.size_alloc]; omega) ?_
  intro v' w' h2 h3 h4
  rcases h2.2 with ⟨-, h0⟩ | ⟨g, cap, cur, rfl, -⟩
  · omega
  · refine h g cap w' h2 ?_ ?_
    · exact (Turns.of_below' (Below.al1 w _)).trans (Turns.of_grown h3 (fun _ h => h))
    · rcases h4 g rfl with h | h
      · exact .inl h
      · rw [World.size_alloc] at h
        exact .inr (by omega)

end Go.Proofs.Ytjigdgfanpeibaa
