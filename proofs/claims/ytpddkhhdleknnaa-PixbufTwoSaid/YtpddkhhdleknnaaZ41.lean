/- Several texts in one, each with its own head. -/
import Derived.Test.YtpddkhhdleknnaaZ40
import Derived.Test.YtpddkhhdleknnaaZ38
/- Plain facts: bounds of places, and one column more at the end of a row. Nothing here walks. -/
namespace Go.Proofs.Ytpddkhhdleknnaa
open Go.RowKit

theorem edgesI_bound {down : Bool} {a b : List Rc} {z : Int} (h : z ∈ edgesI down b (edgesI down a [])) : -1048576 ≤ z ∧ z ≤ 1048576 := by
  have key : ∀ r : Rc, emptyR r = false → (z = nearR down r ∨ z = nearR down r + sizeR down r) → -1048576 ≤ z ∧ z ≤ 1048576 := fun r he hz => by
    have hb := emptyR_false.1 he
    cases down <;> simp [nearR, sizeR] at hz <;> omega
  rw [edgesI_mem, edgesI_mem] at h
  rcases h with (h | ⟨r, -, he, hz⟩) | ⟨r, -, he, hz⟩
  · cases h
  · exact key r he hz
  · exact key r he hz

theorem colPut_snoc (y h x x' : Int) (r : Rc) : ∀ l : List Rc, colPut y h x x' (l ++ [r]) = if r.x + r.a = x then l ++ [⟨r.x, r.y, x' - r.x, r.b⟩] else l ++ [r, ⟨x, y, x' - x, h⟩]
  | [] => by simp [colPut]
  | [s] => by
    show s :: colPut y h x x' [r] = _
    simp only [colPut]
    split <;> simp
  | s :: t :: l => by
    have ih := colPut_snoc y h x x' r (t :: l)
    show s :: colPut y h x x' (t :: l ++ [r]) = _
    rw [ih]
    split <;> simp

theorem colPut_len (y h x x' : Int) : ∀ l : List Rc, (colPut y h x x' l).length ≤ l.length + 1
  | [] => by simp [colPut]
  | [r] => by unfold colPut; split <;> simp
  | r :: s :: l => by
    have := colPut_len y h x x' (s :: l)
    show (r :: colPut y h x x' (s :: l)).length ≤ _
    simp at this ⊢
    omega

theorem colsO_len (F : Int → Bool) (y h : Int) : ∀ (ks : List Int) (x : Int) (band : List Rc), (colsO F y h band x ks).length ≤ band.length + ks.length
  | [], _, _ => by simp [colsO]
  | x' :: ks, x, band => by
    unfold colsO
    have h1 := colsO_len F y h ks x' (if F x = true then colPut y h x x' band else band)
    have h2 : (if F x = true then colPut y h x x' band else band).length ≤ band.length + 1 := by
      split
      · exact colPut_len y h x x' band
      · omega
    simp
    omega

/-- One place on: what is still to come of a row of columns. -/
theorem colsO_at (F : Int → Bool) (y h : Int) (band : List Rc) (xs : List Int) (i : Nat) (hi : i + 1 < xs.length) :
    colsO F y h band (xs[i]'(by omega)) (xs.drop (i + 1)) = colsO F y h (if F (xs[i]'(by omega)) = true then colPut y h (xs[i]'(by omega)) xs[i + 1] band else band) xs[i + 1] (xs.drop (i + 2)) := by
  rw [List.drop_eq_getElem_cons hi]
  rfl

theorem docR_at (mf : Bool → Bool → Bool) (a b : List Rc) (xs : List Int) (s : List Rc × List Rc) (ys : List Int) (j : Nat) (hj : j + 1 < ys.length) :
    docR mf a b xs s (ys[j]'(by omega)) (ys.drop (j + 1)) = docR mf a b xs (docStep s (colsR (fun u => mf (pix a u (ys[j]'(by omega))) (pix b u (ys[j]'(by omega)))) (ys[j]'(by omega)) (ys[j + 1] - ys[j]'(by omega)) xs) (ys[j]'(by omega)) ys[j + 1]) ys[j + 1] (ys.drop (j + 2)) := by
  rw [List.drop_eq_getElem_cons hj]
  rfl

end Go.Proofs.Ytpddkhhdleknnaa

/- Plain facts: does a column join the one before it; bounds; the last step of the document's rows. Nothing here walks. -/
namespace Go.Proofs.Ytpddkhhdleknnaa
open Go.RowKit

/-- Does a column at x join the last one of a band? -/
def joinB (band : List Rc) (x : Int) : Bool := match band.getLast? with
  | some r => decide (r.x + r.a = x)
  | none => false
theorem joinB_nil (x : Int) : joinB [] x = false := rfl
theorem joinB_snoc (l : List Rc) (r : Rc) (x : Int) : joinB (l ++ [r]) x = decide (r.x + r.a = x) := by simp [joinB]
theorem nil_or_snoc {α : Type} (l : List α) : l = [] ∨ ∃ l' r, l = l' ++ [r] := by
  rcases List.eq_nil_or_concat l with h | ⟨l', r, h⟩
  · exact .inl h
  · exact .inr ⟨l', r, by rw [h]; simp⟩
theorem colPut_not {band : List Rc} {x : Int} (h : joinB band x = false) (y hh x' : Int) : colPut y hh x x' band = band ++ [⟨x, y, x' - x, hh⟩] := by
  rcases nil_or_snoc band with rfl | ⟨l, r, rfl⟩
  · rfl
  · rw [joinB_snoc] at h
    rw [colPut_snoc, if_neg (by simpa using h)]
    simp
theorem colPut_join {l : List Rc} {r : Rc} {x : Int} (h : joinB (l ++ [r]) x = true) (y hh x' : Int) : colPut y hh x x' (l ++ [r]) = l ++ [⟨r.x, r.y, x' - r.x, r.b⟩] := by
  rw [joinB_snoc] at h
  rw [colPut_snoc, if_pos (by simpa using h)]
theorem joinB_some {band : List Rc} {x : Int} (h : joinB band x = true) : ∃ l r, band = l ++ [r] ∧ r.x + r.a = x := by
  rcases nil_or_snoc band with rfl | ⟨l, r, rfl⟩
  · cases h
  · rw [joinB_snoc] at h
    exact ⟨l, r, rfl, by simpa using h⟩

/-- Bounds across, and down. -/
def XB (r : Rc) : Prop := -1048576 ≤ r.x ∧ 0 ≤ r.a ∧ r.x + r.a ≤ 1048576
def YB (r : Rc) : Prop := -1048576 ≤ r.y ∧ r.y ≤ 1048576 ∧ -1048576 ≤ r.y + r.b ∧ r.y + r.b ≤ 1048576

theorem flatR_set2 (l : List Rc) (k : Nat) (a : Int) (h : k < l.length) : (flatR l).set (k * 4 + 2) (.int .i64 a) = flatR (l.set k ⟨l[k].x, l[k].y, a, l[k].b⟩) := by
  induction l generalizing k with
  | nil => simp at h
  | cons r l ih =>
    have h4 : (encR r).length = 4 := rfl
    cases k with
    | zero => simp [flatR, encR]
    | succ k =>
      have := ih k (by simpa using h)
      simp only [flatR, List.flatMap_cons, List.set_cons_succ] at this ⊢
      rw [List.set_append_right _ _ (by rw [h4]; omega), h4, show (k + 1) * 4 + 2 - 4 = k * 4 + 2 by omega, this]
      simp

theorem flatR_last (l : List Rc) (r : Rc) (a : Int) : (flatR (l ++ [r])).set (l.length * 4 + 2) (.int .i64 a) = flatR (l ++ [⟨r.x, r.y, a, r.b⟩]) := by
  have h : l.length < (l ++ [r]).length := by simp
  rw [flatR_set2 _ _ _ h]
  congr 1
  rw [List.set_append_right _ _ (Nat.le_refl _)]
  simp

theorem flatR_snoc (l : List Rc) (r : Rc) : flatR (l ++ [r]) = flatR l ++ encR r := by simp [flatR]
theorem flatR_at_last (l : List Rc) (r : Rc) (j : Nat) : (flatR (l ++ [r]))[l.length * 4 + j]? = (encR r)[j]? := by
  rw [flatR_snoc, List.getElem?_append_right (by rw [flatR_len]; omega), flatR_len, show l.length * 4 + j - l.length * 4 = j by omega]

theorem docStep_go {s : List Rc × List Rc} {st : List Rc} {y : Int} (h : goesD s.2 st y = true) (y' : Int) : docStep s st y y' = (s.1, s.2.map (tall y')) := by unfold docStep; rw [if_pos h]
theorem docStep_not {s : List Rc × List Rc} {st : List Rc} {y : Int} (h : goesD s.2 st y = false) (y' : Int) : docStep s st y y' = (s.1 ++ s.2, st) := by unfold docStep; rw [if_neg (by rw [h]; simp)]

theorem tall_YB {y' : Int} {r : Rc} (h : YB r) (hy : -1048576 ≤ y' ∧ y' ≤ 1048576) : YB (tall y' r) := by
  unfold YB tall at *
  simp only
  omega

/-- One column more, within the bounds. -/
theorem colPut_XB {band : List Rc} {x x' : Int} (h : ∀ r ∈ band, XB r) (hx : -1048576 ≤ x) (hxx : x ≤ x') (hx' : x' ≤ 1048576) (y hh : Int) : ∀ r ∈ colPut y hh x x' band, XB r := by
  cases hj : joinB band x with
  | true =>
    obtain ⟨l, r, rfl, e⟩ := joinB_some hj
    rw [colPut_join hj]
    intro q hq
    rcases List.mem_append.1 hq with hq | hq
    · exact h q (by simp [hq])
    · have h1 := h r (by simp)
      rcases List.mem_singleton.1 hq with rfl
      unfold XB at *
      simp only
      omega
  | false =>
    rw [colPut_not hj]
    intro q hq
    rcases List.mem_append.1 hq with hq | hq
    · exact h q hq
    · rcases List.mem_singleton.1 hq with rfl
      unfold XB
      simp only
      omega
/-- One column more: of one height with the others. -/
theorem colPut_Y {band : List Rc} {x x' y hh : Int} (h : ∀ r ∈ band, r.y = y ∧ r.b = hh) : ∀ r ∈ colPut y hh x x' band, r.y = y ∧ r.b = hh := by
  cases hj : joinB band x with
  | true =>
    obtain ⟨l, r, rfl, e⟩ := joinB_some hj
    rw [colPut_join hj]
    intro q hq
    rcases List.mem_append.1 hq with hq | hq
    · exact h q (by simp [hq])
    · have h1 := h r (by simp)
      rcases List.mem_singleton.1 hq with rfl
      exact h1
  | false =>
    rw [colPut_not hj]
    intro q hq
    rcases List.mem_append.1 hq with hq | hq
    · exact h q hq
    · rcases List.mem_singleton.1 hq with rfl
      exact ⟨rfl, rfl⟩

end Go.Proofs.Ytpddkhhdleknnaa

/- Plain facts for the document's Diff: the grid of a picture's places; its across. -/
namespace Go.Proofs.Ytpddkhhdleknnaa
open Go.RowKit

/-- The places of a grid. -/
def gN (n : Nat) : List Int := (List.range (n + 1)).map (fun i : Nat => (i : Int))
theorem gN_len (n : Nat) : (gN n).length = n + 1 := by simp [gN]
theorem gN_at (n i : Nat) (h : i < (gN n).length) : (gN n)[i] = (i : Int) := by simp [gN]
theorem gN_rises (n : Nat) : (gN n).Pairwise (· < ·) := by
  unfold gN
  rw [List.pairwise_map]
  exact List.pairwise_lt_range.imp (fun h => by omega)
theorem gN_mem {n : Nat} {z : Int} : z ∈ gN n ↔ 0 ≤ z ∧ z ≤ n := by
  unfold gN
  rw [List.mem_map]
  constructor
  · rintro ⟨i, hi, rfl⟩
    have := List.mem_range.1 hi
    omega
  · rintro ⟨h1, h2⟩
    exact ⟨z.toNat, List.mem_range.2 (by omega), by omega⟩
theorem gN_cons (n : Nat) : gN n = ((0 : Nat) : Int) :: (gN n).drop (0 + 1) := by
  have h := List.drop_eq_getElem_cons (l := gN n) (i := 0) (by rw [gN_len]; omega)
  rw [List.drop_zero, gN_at] at h
  exact h

theorem colsO_g (F : Int → Bool) (y h : Int) (band : List Rc) (n i : Nat) (hi : i < n) :
    colsO F y h band (i : Int) ((gN n).drop (i + 1)) = colsO F y h (if F (i : Int) = true then colPut y h (i : Int) ((i + 1 : Nat) : Int) band else band) ((i + 1 : Nat) : Int) ((gN n).drop (i + 1 + 1)) := by
  have h1 := colsO_at F y h band (gN n) i (by rw [gN_len]; omega)
  rw [gN_at, gN_at] at h1
  exact h1
theorem colsR_g (F : Int → Bool) (y h : Int) (n : Nat) : colsO F y h [] ((0 : Nat) : Int) ((gN n).drop (0 + 1)) = colsR F y h (gN n) := by
  conv => rhs; rw [gN_cons n]
  rfl
theorem colsO_end (F : Int → Bool) (y h : Int) (band : List Rc) (n : Nat) : colsO F y h band (n : Int) ((gN n).drop (n + 1)) = band := by
  rw [List.drop_eq_nil_of_le (by rw [gN_len]; omega)]
  rfl
/-- One row of pixels more. -/
theorem docR_g (a : List Rc) (xs : List Int) (s : List Rc × List Rc) (n j : Nat) (hj : j < n) :
    docR (fun p _ => p) a [] xs s (j : Int) ((gN n).drop (j + 1)) = docR (fun p _ => p) a [] xs (docStep s (colsR (fun u => pix a u (j : Int)) (j : Int) 1 xs) (j : Int) ((j + 1 : Nat) : Int)) ((j + 1 : Nat) : Int) ((gN n).drop (j + 1 + 1)) := by
  have h1 := docR_at (fun p _ => p) a [] xs s (gN n) j (by rw [gN_len]; omega)
  rw [gN_at, gN_at] at h1
  rw [show (((j + 1 : Nat) : Int) - (j : Int)) = 1 by omega] at h1
  exact h1
theorem docR_end (a : List Rc) (xs : List Int) (s : List Rc × List Rc) (n : Nat) : docR (fun p _ => p) a [] xs s (n : Int) ((gN n).drop (n + 1)) = s := by
  rw [List.drop_eq_nil_of_le (by rw [gN_len]; omega)]
  rfl
/-- What the rows of pixels come to. -/
theorem doc_unl {wd ht : Nat} {L M : List Int} (hw : wd ≤ 256) (hh : ht ≤ 256) :
    (docR (fun p _ => p) (diffL wd L M ht) [] (gN wd) ([], []) ((0 : Nat) : Int) ((gN ht).drop (0 + 1))).1 ++ (docR (fun p _ => p) (diffL wd L M ht) [] (gN wd) ([], []) ((0 : Nat) : Int) ((gN ht).drop (0 + 1))).2 = unlL wd ht L M := by
  refine doc_form (mf := fun p _ => p) rfl (gN_rises wd) (fun r hr _ => ?_) (by rw [← gN_cons]; exact gN_rises ht) (fun r hr _ => ?_)
  · rcases hr with hr | hr
    · have := (diffL_ok wd L M hw ht hh).2.1 r hr
      rw [gN_mem, gN_mem]
      omega
    · cases hr
  · rcases hr with hr | hr
    · have := (diffL_ok wd L M hw ht hh).2.1 r hr
      rw [← gN_cons, gN_mem, gN_mem]
      omega
    · cases hr

set_option maxHeartbeats 1000000 in
theorem racross_any (va vb : Value) (a b : List Rc) (w : World) (ha : Row encR 4 w va a) (hb : Row encR 4 w vb b) :
    Makes Try.prog 97 #[va, vb] w (.bool (alikeB a b)) := by
  unfold Makes
  have hla := ha.len
  have hlb := hb.len
  obtain ⟨pa, ca, rfl, hca, hma, hpa⟩ := ha
  obtain ⟨pb, cb, rfl, hcb, hmb, hpb⟩ := hb
  by_cases hll : a.length = b.length
  · have hne : ((a.length : Int) != (b.length : Int)) = false := by simp [hll]
    have Hge := Lib.hid (show alikeB a b = sameCols a b by simp [alikeB, hll])
    have Hll := Lib.hid hll
    have Hpa := Lib.hid hpa
    have Hpb := Lib.hid hpb
    clear hll hpa hpb
    go_enter Try.func97, Try.ntmps97
    go_wp2
    go_loopw [5] (fun i wr => ∃ k : Nat, k ≤ a.length ∧ i = .int .i64 k ∧ Below w.heap.size w wr ∧ Hid (sameCols a b = sameCols (a.drop k) (b.drop k))) (fun i _ => a.length - (intOf i).toNat)
    case atStart => exact ⟨0, by omega, rfl, Below.refl _ _, Lib.hid rfl⟩
    case round =>
      obtain ⟨k, hk, rfl, hbw, He⟩ := hrel
      by_cases hlt2 : k < a.length
      · have hlt : k < b.length := by rw [← Hll.out]; exact hlt2
        obtain ⟨b1, o1, rfl, -, hc⟩ := (Hpa.out.below hbw).rc hlt2
        obtain ⟨b2, o2, rfl, -, hd⟩ := (Hpb.out.below hbw).rc hlt
        obtain ⟨p0, p1, p2, p3⟩ := hc k hlt2
        obtain ⟨q0, q1, q2, q3⟩ := hd k hlt
        have Hat := Lib.hid (sameCols_at hlt2 hlt)
        have Hbx := Lib.hid hbw
        clear hc hd
        generalize a[k] = ra at *
        generalize b[k] = rb at *
        go_wp2
        by_cases hx : ra.x = rb.x
        · have hx' : ((ra.x : Int) != rb.x) = false := by simp [hx]
          by_cases hww : ra.a = rb.a
          · have hww' : ((ra.a : Int) != rb.a) = false := by simp [hww]
            have Hn := Lib.hid (show sameCols a b = sameCols (a.drop (k + 1)) (b.drop (k + 1)) by rw [He.out, Hat.out]; simp [hx, hww])
            clear hx hww
            go_quiet (fail)
            go_wp2
            go_roundw
            case rel => exact ⟨k + 1, by omega, by go_num, Below.drewN' Hbx.out _, Hn⟩
            case measure => simp [intOf]; omega
          · have hww' : ((ra.a : Int) != rb.a) = true := by simp; omega
            have Hn := Lib.hid (show alikeB a b = false by rw [Hge.out, He.out, Hat.out]; simp [hww])
            clear hx hww
            go_quiet (fail)
            go_wp2
            go_ret
            exact ⟨ret_bool Hn.out.symm, Below.drewN' Hbx.out _⟩
        · have hx' : ((ra.x : Int) != rb.x) = true := by simp; omega
          have Hn := Lib.hid (show alikeB a b = false by rw [Hge.out, He.out, Hat.out]; simp [hx])
          clear hx
          go_quiet (fail)
          go_wp2
          go_ret
          exact ⟨ret_bool Hn.out.symm, Below.drewN' Hbx.out _⟩
      · have Hn := Lib.hid (show alikeB a b = true by
          rw [Hge.out, He.out, List.drop_eq_nil_of_le (by omega), List.drop_eq_nil_of_le (by have := Hll.out; omega)]; simp [sameCols])
        go_wp2
        go_ret
        exact ⟨ret_bool Hn.out.symm, hbw⟩
  · have hne : ((a.length : Int) != (b.length : Int)) = true := by simp; omega
    have Hn := Lib.hid (show alikeB a b = false by simp [alikeB, hll])
    clear hll hpa hpb
    go_enter Try.func97, Try.ntmps97
    go_wp2
    go_ret
    exact ⟨ret_bool Hn.out.symm, Below.refl _ _⟩


end Go.Proofs.Ytpddkhhdleknnaa
