/- Several texts in one, each with its own head. -/
import Derived.Test.YtpddkhhdleknnaaZ17
import Derived.Test.YtpddkhhdleknnaaZ23
import Derived.Test.YtpddkhhdleknnaaZ18
import Derived.Test.YtpddkhhdleknnaaZ3
/- region's sortEdges: a row of edges that the caller owns holds, behind the call, the same edges, sorted by place. -/
namespace Go.Proofs.Ytpddkhhdleknnaa
open Go.RowKit Go.Shelf Go.Sort Go.Lib

def flatE (l : List Ed) : List Value := l.flatMap encE

theorem flatE_len (l : List Ed) : (flatE l).length = l.length * 7 := by
  induction l with
  | nil => rfl
  | cons e l ih => simp only [flatE, List.flatMap_cons, List.length_append, List.length_cons] at ih ⊢; rw [ih]; simp [encE]; omega

theorem flat_at {α : Type} {enc : α → List Value} {k : Nat} (hk : ∀ x, (enc x).length = k) (l : List α) (i j : Nat) (hj : j < k) : (l.flatMap enc)[i * k + j]? = l[i]?.bind (fun x => (enc x)[j]?) := by
  induction l generalizing i with
  | nil => simp
  | cons x l ih =>
    rw [List.flatMap_cons]
    cases i with
    | zero =>
      rw [Nat.zero_mul, Nat.zero_add, List.getElem?_append_left (by rw [hk]; exact hj)]
      simp
    | succ i =>
      rw [List.getElem?_append_right (by rw [hk, Nat.add_mul]; omega), hk, show (i + 1) * k + j - k = i * k + j by rw [Nat.add_mul]; omega, ih]
      simp

/-- What a slice owns it reads as. -/
theorem owns_row {α : Type} {enc : α → List Value} {k : Nat} (hk : ∀ x, (enc x).length = k) {W : World} {base : Nat} {e : TypeId} {v : Value} {xs : List α} (h : W.ownsRow base e k v xs.length (xs.flatMap enc)) : Row enc k W v xs := by
  rcases h.2 with ⟨rfl, h0⟩ | ⟨g, cap, cur, rfl, hb, hg, hn, hm, hs, ht⟩
  · have hx : xs = [] := List.eq_nil_of_length_eq_zero h0
    subst hx
    exact ⟨none, 0, rfl, by simp, by simp [maxLen], .inl ⟨rfl, rfl⟩⟩
  · refine ⟨some ⟨g, 0, none⟩, cap, rfl, hn, hm, .inr ⟨g, 0, rfl, (Array.getElem?_eq_some_iff.1 hg).1, fun i x hi j u hj => ?_⟩⟩
    have hjk : j < k := by have := (List.getElem?_eq_some_iff.1 hj).1; rw [hk] at this; exact this
    have h1 := flat_at hk xs i j hjk
    rw [hi] at h1
    simp only [Option.bind_some] at h1
    rw [hj, ← ht, List.getElem?_take] at h1
    split at h1
    · simp only [Nat.zero_add]
      rw [cell_of_row W g (i * k + j) cur e (0, 0) hg]
      simpa using h1
    · cases h1

theorem owns_holds {W : World} {base : Nat} {e : TypeId} {g cap : Nat} {xs : List Ed} (h : W.ownsRow base e 7 (.slice (some ⟨g, 0, none⟩) xs.length cap) xs.length (flatE xs)) : HoldsK encE 7 W g 0 xs.toArray := by
  obtain ⟨p, cap', hv, -, -, hr⟩ := owns_row (enc := encE) (k := 7) (fun _ => rfl) h
  cases hv
  rcases h.2 with ⟨h0, _⟩ | ⟨g', cap', cur, h0, hb, hg, hn, hm, hs, ht⟩
  · cases h0
  · cases h0
    intro t hlt
    rw [size_flatK] at hlt
    simp only [List.size_toArray] at hlt
    rw [get_flatK _ _ _ _ (by simpa using hlt)]
    rcases hr with ⟨h1, _⟩ | ⟨b', off', h1, _, hc⟩
    · cases h1
    · cases h1
      have hi : t / 7 < xs.length := by omega
      have hj : t % 7 < 7 := by omega
      have h2 := hc (t / 7) xs[t / 7] (List.getElem?_eq_getElem hi) (t % 7) ((encE xs[t / 7])[t % 7]'(by exact hj)) (List.getElem?_eq_getElem _)
      rw [show 0 + t / 7 * 7 + t % 7 = 0 + t by omega] at h2
      refine ⟨?_, ?_⟩
      · rw [h2]
        simp [hi]
        rw [List.getElem?_eq_getElem (by exact hj)]
        rfl
      · simp [World.frozen?, hg]

theorem ltPl (x y : Ed) : ltOf (fun x y : Ed => Lib.compareInt x.pl y.pl) x y = decide (x.pl < y.pl) := by
  unfold ltOf Lib.compareInt
  by_cases h1 : x.pl < y.pl
  · simp [h1]
  · by_cases h2 : y.pl < x.pl <;> simp [h1, h2]

theorem swoPl : SWO (ltOf fun x y : Ed => Lib.compareInt x.pl y.pl) where
  irrefl x := by rw [ltPl]; simp
  trans x y z h1 h2 := by rw [ltPl] at *; simp at *; omega
  ntrans x y z h1 h2 := by rw [ltPl] at *; simp at *; omega

set_option maxHeartbeats 1000000 in
theorem cmpEd_any (x y : Ed) (W : World) : Calls Try.prog 134 #[EV x, EV y] W fun e w' => e = .returned (.int .i64 (Lib.compareInt x.pl y.pl)) ∧ ∃ q os', w' = grow (W.drewN q) os' := by
  have hcon := fun W' => AnyG.cmp_Compare_int Try.cmpL x.pl y.pl W'
  change ∀ W', Calls Try.prog 135 _ _ _ at hcon
  generalize Lib.compareInt x.pl y.pl = r at hcon ⊢
  go_enter Try.func134, Try.ntmps134
  go_wp2_with (go_at_call 135; refine (hcon _).mono ?_; rintro e w' ⟨rfl, rfl⟩)
  go_ret
  exact ⟨rfl, 0, _, by rw [alloc_eq_grow, alloc_eq_grow, grow_grow]; rfl⟩

theorem ed_agg : ∀ w, (isAgg 136).run Try.prog w = .ok true w := fun _ => by kernel_rfl
theorem ed_size : ∀ w, (Go.sizeOf 136).run Try.prog w = .ok 7 w := fun _ => by kernel_rfl

/-- The edges of l, by place. -/
def SortedPl (l : List Ed) : Prop := ∀ i j (hi : i < l.length) (hj : j < l.length), i < j → l[i].pl ≤ l[j].pl

theorem flatK_list (d : Array Ed) (t : Nat) (h : t < d.size * 7) : (flatE d.toList)[t]? = some (flatK encE 7 d)[t]! := by
  have h1 := flat_at (enc := encE) (k := 7) (fun _ => rfl) d.toList (t / 7) (t % 7) (by omega)
  rw [show t / 7 * 7 + t % 7 = t by omega] at h1
  have hi : t / 7 < d.size := by omega
  have hj : t % 7 < (encE d[t / 7]).length := by show t % 7 < 7; omega
  rw [get_flatK _ _ _ _ h]
  unfold flatE
  rw [h1]
  rw [getElem!_pos d (t / 7) hi, getElem!_pos (encE d[t / 7]) (t % 7) hj]
  simp only [Array.getElem?_toList, Array.getElem?_eq_getElem hi, Option.bind_some]
  rw [List.getElem?_eq_getElem hj]

/-- A row that is laid anew. -/
theorem owns_put {W : World} {base : Nat} {e : TypeId} {g cap m : Nat} {xs ys : List Ed} (os : Array Obj) (h : W.ownsRow base e 7 (.slice (some ⟨g, 0, none⟩) xs.length cap) xs.length (flatE xs)) (hl : ys.length = xs.length) :
    (sortWorldK encE 7 W g 0 m ys.toArray os).ownsRow base e 7 (.slice (some ⟨g, 0, none⟩) xs.length cap) xs.length (flatE ys) ∧ W.grownBy (sortWorldK encE 7 W g 0 m ys.toArray os) (some g) := by
  rcases h.2 with ⟨h0, _⟩ | ⟨g', cap', cur, h0, hb, hg, hn, hm, hs, ht⟩
  · cases h0
  · cases h0
    have hlt := (Array.getElem?_eq_some_iff.1 hg).1
    have hsz : (W.heap.modify g (onCells (putCells id 0 (flatK encE 7 ys.toArray)))).size = W.heap.size := Array.size_modify
    have hh : (sortWorldK encE 7 W g 0 m ys.toArray os).heap[g]? = some (.cells (putCells id 0 (flatK encE 7 ys.toArray) cur) e (0, 0)) := by
      show ((W.heap.modify g (onCells (putCells id 0 (flatK encE 7 ys.toArray)))) ++ os)[g]? = _
      rw [Array.getElem?_append_left (by rw [hsz]; exact hlt), Array.getElem?_modify, if_pos rfl, hg]
      rfl
    have hfl : (flatE ys).length = xs.length * 7 := by rw [flatE_len, hl]
    refine ⟨⟨hfl, .inr ⟨g, cap, _, rfl, hb, hh, hn, hm, by simp [putCells, hs], ?_⟩⟩, rfl, rfl, rfl, ?_, fun k hk hne => ?_⟩
    · refine List.ext_getElem? fun t => ?_
      rw [List.getElem?_take]
      split
      · rename_i htl
        have h1 := flatK_list ys.toArray t (by simp; omega)
        simp only at h1
        rw [h1]
        have hc : t < cur.size := by have : xs.length * 7 ≤ cap * 7 := Nat.mul_le_mul_right 7 hn; omega
        simp [putCells, hc]
        omega
      · rw [List.getElem?_eq_none (by omega)]
    · show W.heap.size ≤ ((W.heap.modify g _) ++ os).size
      rw [Array.size_append, hsz]; omega
    · show ((W.heap.modify g _) ++ os)[k]? = _
      rw [Array.getElem?_append_left (by rw [hsz]; exact hk), Array.getElem?_modify, if_neg (fun e => hne (by rw [e]))]

set_option maxHeartbeats 1000000 in
theorem sortEdges_any (base : Nat) (v : Value) (xs : List Ed) (w : World) (hlen : xs.length < 4611686018427387904) (hown : w.ownsRow base 136 7 v xs.length (flatE xs)) :
    Calls Try.prog 129 #[v] w fun e w' => e = .returned (.tuple #[]) ∧ ∃ ys : List Ed, ys.Perm xs ∧ SortedPl ys ∧ w'.ownsRow base 136 7 v xs.length (flatE ys) ∧ w.grownBy w' v.ownBlock := by
  have eg : ∀ args w, (callFunc 134 args).run Try.prog w = .ok (.enter 134 args) w := enters_of Try.func134 (by kernel_rfl) rfl
  have hown0 := hown
  rcases hown.2 with ⟨rfl, h0⟩ | ⟨g, cap, cur, rfl, hb, hg, hn, hm, hs, ht⟩
  · have hx : xs = [] := List.eq_nil_of_length_eq_zero h0
    subst hx
    have hcon := AnyF.slices_SortFunc_none Try.sortL none 0 (.func (.func 134) #[] #[]) w
    change Calls Try.prog 133 _ _ _ at hcon
    have Hown := Lib.hid hown0
    clear hown hown0 h0
    go_enter Try.func129, Try.ntmps129
    go_wp2_with (go_at_call 133; refine hcon.mono ?_; rintro e w' ⟨rfl, rfl⟩)
    go_end0
    exact ⟨rfl, [], List.Perm.refl _, fun i j hi => by simp at hi, Hown.out, ⟨rfl, rfl, rfl, Nat.le_refl _, fun _ _ _ => rfl⟩⟩
  · have hcon := AnyQ.slices_SortFunc Try.sortL 7 ed_agg ed_size encE (fun _ => rfl) (fun x v hv => by simp [encE] at hv; rcases hv with rfl | rfl | rfl | rfl | rfl | rfl | rfl <;> rfl) (fun x y => Lib.compareInt x.pl y.pl) swoPl 134 #[] g 0 cap xs.toArray w eg (fun _ _ _ _ x y => cmpEd_any x y _) (owns_holds hown0) (Array.getElem?_eq_some_iff.1 hg).1 (by simpa using hlen)
    change Calls Try.prog 133 _ _ _ at hcon
    simp only [List.size_toArray] at hcon
    have Hown := Lib.hid hown0
    clear hown hown0 hg hs ht
    go_enter Try.func129, Try.ntmps129
    go_wp2_with (go_at_call 133; refine hcon.mono ?_; rintro e w' ⟨rfl, d', n, os, hp, hso, rfl⟩)
    go_end0
    have hsz : d'.size = xs.length := by simpa using hp.1
    obtain ⟨ys⟩ := d'
    simp only [List.size_toArray] at hsz
    obtain ⟨h1, h2⟩ := owns_put (m := n) os Hown.out hsz
    refine ⟨rfl, ys, ?_, ?_, h1, h2⟩
    · have := hp.2.2
      have h3 : xs.take ys.length = xs := List.take_of_length_le (by omega)
      simpa [← hsz, h3] using this
    · intro i j hi hj hij
      have := hso i j (Nat.zero_le _) hij (by rw [hsz] at hj; exact hj)
      rw [ltPl] at this
      simp [hi, hj] at this
      exact this

end Go.Proofs.Ytpddkhhdleknnaa

/- region's downs and acrosses: the edges of rectangles, sorted. -/
namespace Go.Proofs.Ytpddkhhdleknnaa
open Go.RowKit

/-- The upper and lower edges of a list's rectangles that have pixels. -/
def edgesOf (li : Int) (rs : List Rc) : List Ed := rs.flatMap fun r => if emptyR r = true then [] else [⟨r.y, li, 1, r⟩, ⟨r.y + r.b, li, -1, r⟩]

theorem edgesOf_take (li : Int) (rs : List Rc) (j : Nat) (h : j < rs.length) : edgesOf li (rs.take (j + 1)) = edgesOf li (rs.take j) ++ if emptyR rs[j] = true then [] else [⟨rs[j].y, li, 1, rs[j]⟩, ⟨rs[j].y + rs[j].b, li, -1, rs[j]⟩] := by
  rw [List.take_succ_eq_append_getElem h, edgesOf, List.flatMap_append]; simp [edgesOf]
theorem edgesOf_len (li : Int) (rs : List Rc) : (edgesOf li rs).length ≤ 2 * rs.length := by
  induction rs with
  | nil => simp [edgesOf]
  | cons r rs ih =>
    simp only [edgesOf, List.flatMap_cons, List.length_append, List.length_cons] at ih ⊢
    have : (if emptyR r = true then ([] : List Ed) else [⟨r.y, li, 1, r⟩, ⟨r.y + r.b, li, -1, r⟩]).length ≤ 2 := by split <;> simp
    omega
def downsL (a b : List Rc) : List Ed := edgesOf 0 a ++ edgesOf 1 b

theorem ed_info : (Try.prog.info? 136).map (fun i => (i.zero, i.size, i.bytes)) = some (some (.agg #[.int .i64 0, .int .i64 0, .int .i64 0, .int .i64 0, .int .i64 0, .int .i64 0, .int .i64 0]), 7, 56) := by kernel_rfl

theorem encE_one (l : List Ed) : ∀ u ∈ flatE l, u.oneCell' = true := by
  intro u hu
  obtain ⟨e, _, he⟩ := List.mem_flatMap.1 hu
  simp [encE] at he
  rcases he with rfl | rfl | rfl | rfl | rfl | rfl | rfl <;> rfl

theorem cells_new' (w : World) (c : Array Value) (t : TypeId) (j : Nat) (u : Value) (h : c.toList[j]? = some u) : (w.alloc (.cells c t)).cell? ((⟨w.heap.size, 0, none⟩ : Addr).add j) = some u := by
  have hadd : (⟨w.heap.size, 0, none⟩ : Addr).add j = ⟨w.heap.size, j, none⟩ := by unfold Addr.add; split <;> simp_all
  rw [hadd]
  exact cell_at rfl (by simpa using h)

def downsUpto (a b : List Rc) : Nat → List Ed
  | 0 => []
  | 1 => edgesOf 0 a
  | _ => downsL a b

set_option maxRecDepth 100000 in
set_option maxHeartbeats 2000000 in
theorem downs_any (va vb : Value) (a b : List Rc) (w : World) (ha : Row encR 4 w va a) (hb : Row encR 4 w vb b) (hfa : ∀ r ∈ a, Fit r) (hfb : ∀ r ∈ b, Fit r) (hlen : a.length + b.length ≤ 268435456) :
    Calls Try.prog 122 #[va, vb] w fun e w' => ∃ u d, e = .returned u ∧ d.Perm (downsL a b) ∧ SortedPl d ∧ w'.ownsRow w.heap.size 136 7 u d.length (flatE d) ∧ Below w.heap.size w w' := by
  obtain ⟨pa, ca, rfl, -, -, hpa⟩ := ha
  obtain ⟨pb, cb, rfl, -, -, hpb⟩ := hb
  obtain ⟨i0, hi, hz0, hz1, hz2⟩ := info_parts ed_info
  go_enter Try.func122, Try.ntmps122
  go_wp2
  go_loopw [5, 13] (fun v i wr => ∃ k : Nat, k ≤ 2 ∧ i = .int .i64 k ∧ wr.ownsRow w.heap.size 136 7 v (downsUpto a b k).length (flatE (downsUpto a b k)) ∧ Below w.heap.size w wr) (fun _ i _ => 2 - (intOf i).toNat)
  case atStart => exact ⟨0, by omega, rfl, World.ownsRow_nil _ _ _ _, Below.refl _ _⟩
  case round =>
    obtain ⟨k, hk, rfl, hown, hbw⟩ := hrel
    by_cases hlt : k < 2
    · obtain ⟨p, rs, cap, hix, hrow, hfit, hL, hlrs, hln⟩ : ∃ (p : Option Addr) (rs : List Rc) (cap : Nat), (∀ w, (Instr.index 138 (.agg #[.slice pa a.length ca, .slice pb b.length cb]) (.int .i64 k)).run Try.prog w = .ok (.slice p rs.length cap) w) ∧ RowAt encR 4 w p rs ∧ (∀ r ∈ rs, Fit r) ∧ downsUpto a b (k + 1) = downsUpto a b k ++ edgesOf k rs ∧ (downsUpto a b k).length + 2 * rs.length ≤ 536870912 ∧ rs.length ≤ 268435456 := by
        have h1 := edgesOf_len 0 a
        obtain rfl | rfl : k = 0 ∨ k = 1 := by omega
        · exact ⟨pa, a, ca, fun _ => by kernel_rfl, hpa, hfa, by simp [downsUpto], by simp [downsUpto]; omega, by omega⟩
        · exact ⟨pb, b, cb, fun _ => by kernel_rfl, hpb, hfb, by simp [downsUpto, downsL], by simp [downsUpto]; omega, by omega⟩
      have Hown := Lib.hid hown
      have HL := Lib.hid hL
      have Hlrs := Lib.hid hlrs
      have hrl63 : rs.length ≤ 9223372036854775807 := by omega
      have hk2 : decide ((k : Int) < 2) = true := by simp; omega
      clear hL hown hlrs hln
      go_wp2
      go_loopw [5, 19] (fun v i wr => ∃ j : Nat, j ≤ rs.length ∧ i = .int .i64 j ∧ wr.ownsRow w.heap.size 136 7 v (downsUpto a b k ++ edgesOf k (rs.take j)).length (flatE (downsUpto a b k ++ edgesOf k (rs.take j))) ∧ Below w.heap.size w wr) (fun _ i _ => rs.length - (intOf i).toNat)
      case atStart => exact ⟨0, by omega, rfl, by simpa [edgesOf] using Hown.out, hbw⟩
      case round =>
        obtain ⟨j, hj, rfl, hown, hbw2⟩ := hrel
        by_cases hjl : j < rs.length
        · have hrl := hrow.below hbw2
          obtain ⟨bb, off, rfl, hB, hc⟩ := hrl.rc hjl
          obtain ⟨c0, c1, c2, c3⟩ := hc j hjl
          have hft := hfit rs[j] (List.getElem_mem hjl)
          have Htk := Lib.hid (edgesOf_take k rs j hjl)
          have Hlj := Lib.hid (edgesOf_len k (rs.take j))
          clear hc hrl
          generalize rs[j] = r at *
          have Hown2 := Lib.hid hown
          clear hown
          go_wp2_with fail
          refine Calls.mono (empty_any _ _ hft) ?_
          rintro e w2 ⟨rfl, hb2⟩
          have hl2 : Lies w2 wr.heap.size r := (Lies.new rfl).later hb2
          obtain ⟨l0, l1, l2, l3⟩ := hl2
          have Hb2 := Lib.hid hb2
          have Hbw2 : Hid (Below w.heap.size w w2) := Lib.hid (Below.thn hbw2 (Below.thn (Below.al1 _ _) hb2))
          have Hown3 := Lib.hid ((Turns.of_below' (T := fun _ => False) (Below.thn (Below.al1 wr (.cells #[.int .i64 r.x, .int .i64 r.y, .int .i64 r.a, .int .i64 r.b] 30)) hb2)).owns Hown2.out (fun _ _ h => h))
          clear hb2
          cases her : emptyR r
          · have Her := Lib.hid her
            have hbd := emptyR_false.1 her
            clear her
            go_wp2_with (at_builtin; refine wpList_append_mine _ rfl (.tmp 26) (.tmp 40) 125 rfl w.heap.size 136 i0 _ 7 56 Try.underlying125 hi hz0 hz1 hz2 rfl (by decide) _ _ _ rfl (Hown3.out.alloc _) (some ⟨w2.heap.size, 0, none⟩) 2 2 (flatE [⟨r.y, k, 1, r⟩, ⟨r.y + r.b, k, -1, r⟩]) rfl rfl ?c1 ?c2 ?c3 ?c4 ?c5 ?_)
            case c1 => exact .inr ⟨_, rfl, fun j u hu => cells_new' w2 _ _ j u hu⟩
            case c2 => exact encE_one _
            case c3 => have h1 := Hlrs.out; have h2 := Hlj.out; rw [List.length_take] at h2; simp only [maxLen, List.length_append]; omega
            case c4 => have h1 := Hlrs.out; have h2 := Hlj.out; rw [List.length_take] at h2; simp only [List.length_append]; omega
            case c5 => have := Hbw2.out.size; simp; omega
            intro v' w3 hown' hgrow hpl
            have Hown' := Lib.hid hown'
            have Hbw3 : Hid (Below w.heap.size w w3) := Lib.hid ((Below.al Hbw2.out _).grown hgrow (by have := Hbw2.out.size; simp; omega) (fun k' e => (Hown3.out.lt k' e).1))
            have Hres : (w3.ownsRow w.heap.size 136 7 v' (downsUpto a b k ++ edgesOf k (rs.take (j + 1))).length (flatE (downsUpto a b k ++ edgesOf k (rs.take (j + 1))))) := by
              rw [Htk.out, Her.out]
              have h5 := hown'
              simp only [flatE, ← List.flatMap_append, List.append_assoc] at h5
              simpa [flatE, Nat.add_assoc] using h5
            have HRes := Lib.hid Hres
            clear hown' hgrow hpl Hown' Hres
            go_wp2
            go_roundw
            case rel => exact ⟨j + 1, by omega, by go_num, HRes.out, Hbw3.out⟩
            case measure => simp [intOf]; omega
          · have Her := Lib.hid her
            clear her
            have Hres := Lib.hid (show (edgesOf k (rs.take (j + 1))) = edgesOf k (rs.take j) by rw [Htk.out, Her.out]; simp)
            go_wp2
            go_roundw
            case rel => exact ⟨j + 1, by omega, by go_num, by rw [Hres.out]; exact Hown3.out, Hbw2.out⟩
            case measure => simp [intOf]; omega
        · have hje : j = rs.length := by omega
          subst hje
          rw [List.take_length, ← HL.out] at hown
          have Hown2 := Lib.hid hown
          clear hown
          go_wp2
          go_roundw
          case rel => first | exact ⟨k + 1, by omega, by go_num, Hown2.out, hbw2⟩ | ((repeat apply Exists.intro); exact ⟨⟨k + 1, by omega, by go_num, Hown2.out, hbw2⟩, rfl⟩)
          case measure => simp [intOf]; omega
    · obtain rfl : k = 2 := by omega
      have hlen2 : (downsUpto a b 2).length < 4611686018427387904 := by
        have h1 := edgesOf_len 0 a
        have h2 := edgesOf_len 1 b
        simp [downsUpto, downsL]
        omega
      have hs := sortEdges_any w.heap.size u5 (downsUpto a b 2) wr hlen2 hown
      have Hown := Lib.hid hown
      clear hown hlen2
      go_wp2_with fail
      refine Calls.mono hs ?_
      rintro e w2 ⟨rfl, ys, hp, hso, hown2, hg⟩
      have Hb2 := Lib.hid (hbw.grown hg hbw.size (fun k' e => (Hown.out.lt k' e).1))
      have Hp := Lib.hid hp
      have Hso := Lib.hid hso
      have Hown2 := Lib.hid hown2
      clear hp hso hown2 hg hs
      go_wp2
      go_ret
      exact ⟨_, ys, rfl, Hp.out, Hso.out, by rw [Hp.out.length_eq]; exact Hown2.out, Hb2.out⟩

end Go.Proofs.Ytpddkhhdleknnaa
