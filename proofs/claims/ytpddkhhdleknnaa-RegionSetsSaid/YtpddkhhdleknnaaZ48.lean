/- RegionSets, from what the document's Of answers (OfSpec, which RegRefH proves). -/
import Derived.Test.YtpddkhhdleknnaaZ46
namespace Go.Proofs.Ytpddkhhdleknnaa
open Go.RowKit

theorem how2 : howF 2 = fun p q => p && q := by funext p q; simp [howF]
theorem how0 : howF 0 = fun p q => p || q := by funext p q; simp [howF]
theorem how1 : howF 1 = fun p q => p && !q := by funext p q; simp [howF]

/-- A block of cells of rectangles, so great. -/
def Blk (w : World) (g n : Nat) : Prop := ∃ cur : Array Value, w.heap[g]? = some (.cells cur 30) ∧ cur.size = n

theorem Blk.cell {w : World} {g n : Nat} (h : Blk w g n) {i : Nat} (hi : i < n) : ∃ v, w.cell? ⟨g, i, none⟩ = some v := by
  obtain ⟨cur, h1, h2⟩ := h
  exact ⟨cur[i]'(by omega), by simp [World.cell?, h1, h2, hi]⟩
theorem Blk.free {w : World} {g n : Nat} (h : Blk w g n) (i : Nat) : w.frozen? ⟨g, i, none⟩ = false := by
  obtain ⟨cur, h1, -⟩ := h
  simp [World.frozen?, h1]
theorem Blk.set {w : World} {g n : Nat} (h : Blk w g n) (i : Nat) (v : Value) : Blk (w.setCell ⟨g, i, none⟩ v) g n := by
  obtain ⟨cur, h1, h2⟩ := h
  refine ⟨cur.setIfInBounds i v, ?_, by simpa using h2⟩
  obtain ⟨hlt, hk⟩ := Array.getElem?_eq_some_iff.1 h1
  show (w.heap.modify g _)[g]? = _
  rw [Array.getElem?_eq_getElem (by rw [Array.size_modify]; exact hlt), Array.getElem_modify_self, hk]
  rfl

theorem owns_blk {w : World} {base : Nat} {u : Value} {n : Nat} {l : List Value} (h : w.ownsRow base 30 4 u n l) : (u = .slice none 0 0 ∧ n = 0) ∨ ∃ g cap, u = .slice (some ⟨g, 0, none⟩) n cap ∧ base ≤ g ∧ n ≤ cap ∧ Blk w g (cap * 4) := by
  rcases h.2 with ⟨rfl, h2⟩ | ⟨g, cap, cur, rfl, hb, hg, hn, hm, hs, ht⟩
  · exact .inl ⟨rfl, by have := h.1; simp_all⟩
  · exact .inr ⟨g, cap, rfl, hb, hn, cur, hg, hs⟩

set_option maxRecDepth 100000 in
set_option maxHeartbeats 8000000 in
theorem rsets_any (hOf : OfSpec) (va : Value) (a : List Rc) (vb : Value) (b : List Rc) (w : World) (ha : Rw w va a) (hfa : ∀ r ∈ a, Fit r) (hb : Rw w vb b) (hfb : ∀ r ∈ b, Fit r) :
    Makes Try.prog 3 #[va, vb] w (.bool true) := by
  unfold Makes
  have S0 : St w w [(va, a), (vb, b)] := ⟨Below.refl _ _, fun v xs h => by
    simp only [List.mem_cons, Prod.mk.injEq, List.not_mem_nil, or_false] at h
    rcases h with ⟨rfl, rfl⟩ | ⟨rfl, rfl⟩
    · exact ⟨ha, hfa⟩
    · exact ⟨hb, hfb⟩⟩
  obtain ⟨⟨pa, ca, rfl, -, -, -⟩, -⟩ := ha
  obtain ⟨⟨pb, cb, rfl, -, -, -⟩, -⟩ := hb
  clear hfa hfb
  go_enter Try.func3, Try.ntmps3
  have early : ∀ {R : Ending → World → Prop}, (∀ e w', e = .returned (.bool true) ∧ Below w.heap.size w w' → R e w') → Calls Try.prog 8 #[] w R := fun h => Calls.mono (wakes_any w) h
  by_cases h1 : 24 < a.length
  · have d1 : decide ((24 : Int) < (a.length : Int)) = true := by simp; omega
    go_wp2_with fail
    refine early ?_
    rintro e w' ⟨rfl, hbk⟩
    go_wp2
    go_ret
    exact ⟨rfl, hbk⟩
  have d1 : decide ((24 : Int) < (a.length : Int)) = false := by simp; omega
  by_cases h2 : 24 < b.length
  · have d2 : decide ((24 : Int) < (b.length : Int)) = true := by simp; omega
    go_wp2_with fail
    refine early ?_
    rintro e w' ⟨rfl, hbk⟩
    go_wp2
    go_ret
    exact ⟨rfl, hbk⟩
  have d2 : decide ((24 : Int) < (b.length : Int)) = false := by simp; omega
  have ea : a.length ≤ 24 := by omega
  have eb : b.length ≤ 24 := by omega
  clear early
  go_wp2_with fail
  refine Calls.mono (own_st S0 (xs := a) (by repeat (first | exact List.Mem.head _ | apply List.Mem.tail)) (by omega)) ?_
  rintro e w1 ⟨u1, rfl, S1⟩
  go_wp2_with fail
  refine Calls.mono (own_st S1 (xs := b) (by repeat (first | exact List.Mem.head _ | apply List.Mem.tail)) (by omega)) ?_
  rintro e w2 ⟨u2, rfl, S2⟩
  go_wp2_with fail
  refine Calls.mono (regOf_any u1 a _ (S2.all u1 a (by repeat (first | exact List.Mem.head _ | apply List.Mem.tail))).1.row (S2.all u1 a (by repeat (first | exact List.Mem.head _ | apply List.Mem.tail))).2 (by omega) (form_len _ rfl _ _)) ?_
  rintro e w3 ⟨uf, rfl, hownF, hb3⟩
  have SF := S2.add hb3 (Rw.owned hownF) (form_fit _ rfl _ _)
  have hblk := owns_blk hownF
  have Hb02 := Lib.hid S2.below
  have hsz2 := hb3.size
  obtain ⟨pf, cf, rfl⟩ := owns_slice hownF
  have Q0 : St w3 w3 [(.slice pf (formL (fun p _ => p) a []).length cf, formL (fun p _ => p) a []), (u2, b), (u1, a), (.slice pa a.length ca, a), (.slice pb b.length cb, b)] := ⟨Below.refl _ _, fun v xs hm => SF.all v xs hm⟩
  have Q2 : St w2 w2 [(u2, b), (u1, a), (.slice pa a.length ca, a), (.slice pb b.length cb, b)] := ⟨Below.refl _ _, fun v xs hm => S2.all v xs hm⟩
  clear SF hownF
  go_wp2_with fail
  refine Calls.mono (refOf0_st hOf Q0 (a := a) (by repeat (first | exact List.Mem.head _ | apply List.Mem.tail)) ea) ?_
  rintro e w11 ⟨p11, c11, rfl, S11⟩
  go_wp2_with fail
  refine Calls.mono (refRects_st S11 (a := (formL (fun p _ => p) a [])) (b := (formL (fun p _ => p) a [])) (by repeat (first | exact List.Mem.head _ | apply List.Mem.tail)) (by repeat (first | exact List.Mem.head _ | apply List.Mem.tail)) (t := true) (eqRs_iff.2 rfl)) ?_
  rintro e w12 ⟨rfl, S12⟩
  go_wp2_with fail
  refine Calls.mono (and_st S12 (a := a) (b := b) (by repeat (first | exact List.Mem.head _ | apply List.Mem.tail)) (by repeat (first | exact List.Mem.head _ | apply List.Mem.tail)) (by omega)) ?_
  rintro e w13 ⟨p13, c13, rfl, S13⟩
  go_wp2_with fail
  refine Calls.mono (refOf_st hOf 2 _ how2 S13 (a := a) (b := b) (by repeat (first | exact List.Mem.head _ | apply List.Mem.tail)) (by repeat (first | exact List.Mem.head _ | apply List.Mem.tail)) ea eb) ?_
  rintro e w14 ⟨p14, c14, rfl, S14⟩
  go_wp2_with fail
  refine Calls.mono (refRects_st S14 (a := (formL (fun p q => p && q) a b)) (b := (formL (fun p q => p && q) a b)) (by repeat (first | exact List.Mem.head _ | apply List.Mem.tail)) (by repeat (first | exact List.Mem.head _ | apply List.Mem.tail)) (t := true) (eqRs_iff.2 rfl)) ?_
  rintro e w15 ⟨rfl, S15⟩
  go_wp2_with fail
  refine Calls.mono (or_st S15 (a := a) (b := b) (by repeat (first | exact List.Mem.head _ | apply List.Mem.tail)) (by repeat (first | exact List.Mem.head _ | apply List.Mem.tail)) (by omega)) ?_
  rintro e w16 ⟨p16, c16, rfl, S16⟩
  go_wp2_with fail
  refine Calls.mono (refOf_st hOf 0 _ how0 S16 (a := a) (b := b) (by repeat (first | exact List.Mem.head _ | apply List.Mem.tail)) (by repeat (first | exact List.Mem.head _ | apply List.Mem.tail)) ea eb) ?_
  rintro e w17 ⟨p17, c17, rfl, S17⟩
  go_wp2_with fail
  refine Calls.mono (refRects_st S17 (a := (formL (fun p q => p || q) a b)) (b := (formL (fun p q => p || q) a b)) (by repeat (first | exact List.Mem.head _ | apply List.Mem.tail)) (by repeat (first | exact List.Mem.head _ | apply List.Mem.tail)) (t := true) (eqRs_iff.2 rfl)) ?_
  rintro e w18 ⟨rfl, S18⟩
  go_wp2_with fail
  refine Calls.mono (minus_st S18 (a := a) (b := b) (by repeat (first | exact List.Mem.head _ | apply List.Mem.tail)) (by repeat (first | exact List.Mem.head _ | apply List.Mem.tail)) (by omega)) ?_
  rintro e w19 ⟨p19, c19, rfl, S19⟩
  go_wp2_with fail
  refine Calls.mono (refOf_st hOf 1 _ how1 S19 (a := a) (b := b) (by repeat (first | exact List.Mem.head _ | apply List.Mem.tail)) (by repeat (first | exact List.Mem.head _ | apply List.Mem.tail)) ea eb) ?_
  rintro e w20 ⟨p20, c20, rfl, S20⟩
  go_wp2_with fail
  refine Calls.mono (refRects_st S20 (a := (formL (fun p q => p && !q) a b)) (b := (formL (fun p q => p && !q) a b)) (by repeat (first | exact List.Mem.head _ | apply List.Mem.tail)) (by repeat (first | exact List.Mem.head _ | apply List.Mem.tail)) (t := true) (eqRs_iff.2 rfl)) ?_
  rintro e w21 ⟨rfl, S21⟩
  have HB3 := Lib.hid S21.below
  have HBf := Lib.hid (hb3.trans (S21.below.mono hb3.size))
  clear S21 Q0 S0 hb3
  have qn := form_small (mf := fun p _ => p) ea (show ([] : List Rc).length ≤ 24 by simp)
  generalize (formL (fun p _ => p) a []).length = n at *
  rcases hblk with ⟨he, rfl⟩ | ⟨g, cap, he, hg, hcap, hB3⟩
  · cases he
    go_wp2
    go_loopw [8] (fun i wr => i = .int .i64 0 ∧ wr = w21) (fun _ _ => 0)
    case atStart => exact ⟨rfl, rfl⟩
    case round =>
      obtain ⟨rfl, rfl⟩ := hrel
      have R0 := Q2.later HBf.out
      go_wp2_with fail
      refine Calls.mono (refRects_st R0 (a := a) (b := a) (by repeat (first | exact List.Mem.head _ | apply List.Mem.tail)) (by repeat (first | exact List.Mem.head _ | apply List.Mem.tail)) (t := true) (eqRs_iff.2 rfl)) ?_
      rintro e w41 ⟨rfl, S41⟩
      go_wp2_with fail
      refine Calls.mono (refRects_st S41 (a := b) (b := b) (by repeat (first | exact List.Mem.head _ | apply List.Mem.tail)) (by repeat (first | exact List.Mem.head _ | apply List.Mem.tail)) (t := true) (eqRs_iff.2 rfl)) ?_
      rintro e w42 ⟨rfl, S42⟩
      go_wp2_with fail
      refine Calls.mono (wakes_any w42) ?_
      rintro e w43 ⟨rfl, hbk⟩
      have S43 := S42.later hbk
      go_wp2
      go_ret
      exact ⟨rfl, Hb02.out.trans (S43.below.mono Hb02.out.size)⟩
  · cases he
    have hgw : g < w3.heap.size := (Array.getElem?_eq_some_iff.1 hB3.choose_spec.1).1
    have hBL : Blk w21 g (cf * 4) := hB3.imp fun cur h => ⟨(HB3.out.block g hgw).trans h.1, h.2⟩
    go_wp2
    go_loopw [8] (fun i wr => ∃ k : Nat, k ≤ n ∧ i = .int .i64 k ∧ Below w2.heap.size w2 wr ∧ Blk wr g (cf * 4)) (fun i _ => n - (intOf i).toNat)
    case atStart => exact ⟨0, by omega, rfl, HBf.out, hBL⟩
    case round =>
      obtain ⟨k, hk, rfl, hbw, hB⟩ := hrel
      by_cases hlt : k < n
      · obtain ⟨v0, c0⟩ := hB.cell (i := k * 4) (by omega)
        obtain ⟨v1, c1⟩ := hB.cell (i := k * 4 + 1) (by omega)
        obtain ⟨v2, c2⟩ := hB.cell (i := k * 4 + 2) (by omega)
        obtain ⟨v3, c3⟩ := hB.cell (i := k * 4 + 3) (by omega)
        have f0 := hB.free (k * 4)
        have f1 := hB.free (k * 4 + 1)
        have f2 := hB.free (k * 4 + 2)
        have f3 := hB.free (k * 4 + 3)
        have HN := Lib.hid (show ∀ W', W' = ((((wr.setCell ⟨g, k * 4, none⟩ (.int .i64 0)).setCell ⟨g, k * 4 + 1, none⟩ (.int .i64 0)).setCell ⟨g, k * 4 + 2, none⟩ (.int .i64 9)).setCell ⟨g, k * 4 + 3, none⟩ (.int .i64 9)) → Below w2.heap.size w2 W' ∧ Blk W' g (cf * 4) from by
          rintro W' rfl
          exact ⟨(((hbw.setCell (p := ⟨g, k * 4, none⟩) hg _).setCell (p := ⟨g, k * 4 + 1, none⟩) hg _).setCell (p := ⟨g, k * 4 + 2, none⟩) hg _).setCell (p := ⟨g, k * 4 + 3, none⟩) hg _, (((hB.set _ _).set _ _).set _ _).set _ _⟩)
        clear hB hbw
        go_wp2
        go_roundw
        case rel => exact ⟨k + 1, by omega, by go_num, (HN.out _ rfl).1, (HN.out _ rfl).2⟩
        case measure => simp [intOf]; omega
      · obtain rfl : k = n := by omega
        have R0 := Q2.later hbw
        go_wp2_with fail
        refine Calls.mono (refRects_st R0 (a := a) (b := a) (by repeat (first | exact List.Mem.head _ | apply List.Mem.tail)) (by repeat (first | exact List.Mem.head _ | apply List.Mem.tail)) (t := true) (eqRs_iff.2 rfl)) ?_
        rintro e w41 ⟨rfl, S41⟩
        go_wp2_with fail
        refine Calls.mono (refRects_st S41 (a := b) (b := b) (by repeat (first | exact List.Mem.head _ | apply List.Mem.tail)) (by repeat (first | exact List.Mem.head _ | apply List.Mem.tail)) (t := true) (eqRs_iff.2 rfl)) ?_
        rintro e w42 ⟨rfl, S42⟩
        go_wp2_with fail
        refine Calls.mono (wakes_any w42) ?_
        rintro e w43 ⟨rfl, hbk⟩
        have S43 := S42.later hbk
        go_wp2
        go_ret
        exact ⟨rfl, Hb02.out.trans (S43.below.mono Hb02.out.size)⟩

end Go.Proofs.Ytpddkhhdleknnaa
