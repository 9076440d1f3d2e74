/- Several texts in one, each with its own head. -/
import Derived.Test.YtjigdgfanpeibaaTB34
import Derived.Test.YtjigdgfanpeibaaTB42
import Derived.Test.YtjigdgfanpeibaaTB41
/- tiles, plainly: one tile for each pixel; what is touched. Nothing here speaks of a program. -/
namespace Go.Proofs.Ytjigdgfanpeibaa

theorem tl_has {w h i : Nat} (hw : w ≤ 256) (hh : h ≤ 256) (hi : i < tlN w h) (x y : Int) : hasR (tlR w h i) x y = true ↔ (16 * ((i % clN w : Nat) : Int) ≤ x ∧ x < 16 * ((i % clN w : Nat) : Int) + 16 ∧ x < w) ∧ (16 * ((i / clN w : Nat) : Int) ≤ y ∧ y < 16 * ((i / clN w : Nat) : Int) + 16 ∧ y < h) := by
  obtain ⟨a1, a2, a3, a4⟩ := tl_parts hw hh hi
  have hr16 : 16 * (i / clN w) < h := by
    have h1 : 16 * (i / clN w) < 16 * clN h := by omega
    have h2 : clN h = (h + 15) / 16 := rfl
    omega
  exact til_has hw hh (by unfold clN at a1 ⊢; omega) hr16 x y

theorem tile_one {w h : Nat} (hw : w ≤ 256) (hh : h ≤ 256) (x y : Int) : ∃ i0, (∀ i, i < tlN w h → hasR (tlR w h i) x y = decide (i = i0)) ∧
    ((0 ≤ x ∧ x < w ∧ 0 ≤ y ∧ y < h ∧ i0 < tlN w h ∧ (i0 : Int) = y / 16 * (clN w : Int) + x / 16) ∨ (¬ (0 ≤ x ∧ x < w ∧ 0 ≤ y ∧ y < h) ∧ i0 = tlN w h)) := by
  by_cases hin : 0 ≤ x ∧ x < w ∧ 0 ≤ y ∧ y < h
  · obtain ⟨X, rfl⟩ := Int.eq_ofNat_of_zero_le hin.1
    obtain ⟨Y, rfl⟩ := Int.eq_ofNat_of_zero_le hin.2.2.1
    have hX : X / 16 < clN w := by unfold clN; omega
    have hY : Y / 16 < clN h := by unfold clN; omega
    refine ⟨Y / 16 * clN w + X / 16, fun i hi => ?_, .inl ⟨hin.1, hin.2.1, hin.2.2.1, hin.2.2.2, ?_, by simp⟩⟩
    · rw [Bool.eq_iff_iff, tl_has hw hh hi, decide_eq_true_iff]
      obtain ⟨a1, a2, -, -⟩ := tl_parts hw hh hi
      constructor
      · intro hc
        have e1 : i % clN w = X / 16 := by omega
        have e2 : i / clN w = Y / 16 := by omega
        rw [← e1, ← e2, Nat.mul_comm, Nat.div_add_mod]
      · rintro rfl
        obtain ⟨e1, e2⟩ := num_parts (r := Y / 16) hX
        rw [e1, e2]
        omega
    · have : (Y / 16 + 1) * clN w ≤ clN h * clN w := Nat.mul_le_mul_right _ hY
      rw [Nat.add_mul] at this
      unfold tlN; omega
  · refine ⟨tlN w h, fun i hi => ?_, .inr ⟨hin, rfl⟩⟩
    have : ¬ hasR (tlR w h i) x y = true := fun hc => hin (by
      rw [tl_has hw hh hi] at hc
      have n1 := Int.natCast_nonneg (i % clN w)
      have n2 := Int.natCast_nonneg (i / clN w)
      omega)
    rw [show decide (i = tlN w h) = false by simp; omega]
    simpa using this

/-- A tile is touched where a list and it have a pixel. -/
theorem touch_iff {w h : Nat} (hw : w ≤ 256) (hh : h ≤ 256) (l : List Rc) {i : Nat} (hi : i < tlN w h) : ofN (pcsL w h (ptL w h l)) i ≠ [] ↔ ∃ x y, pix l x y = true ∧ hasR (tlR w h i) x y = true := by
  have hpx := pcs_pix hw hh (ptL_in w h l) hi
  constructor
  · intro hne
    obtain ⟨r, hr⟩ := List.exists_mem_of_ne_nil _ hne
    obtain ⟨-, he, -⟩ := pcs_mem hw hh (ptL_in w h l) hr
    obtain ⟨c1, -, -, -⟩ := corner_has he
    have h1 := pix_iff.2 ⟨r, hr, c1⟩
    rw [hpx, ptL_pix, Bool.and_eq_true, Bool.and_eq_true] at h1
    exact ⟨_, _, h1.1.1, h1.2⟩
  · rintro ⟨x, y, h1, h2⟩ e
    have h3 := hpx x y
    have h4 : hasR (pcR w h) x y = true := by
      unfold tlR til at h2
      rw [has_and, Bool.and_eq_true] at h2
      exact h2.2
    rw [e, ptL_pix, h1, h2, h4, pix_nil] at h3
    cases h3

theorem filter_one (i0 : Nat) : ∀ N, (List.range N).filter (fun i => decide (i = i0)) = if i0 < N then [i0] else []
  | 0 => rfl
  | N + 1 => by
    rw [List.range_succ, List.filter_append, filter_one i0 N]
    by_cases h : N = i0
    · subst h
      simp
    · by_cases h2 : i0 < N
      · simp [h, h2, show i0 < N + 1 by omega]
      · simp [h, h2, show ¬ i0 < N + 1 by omega]
theorem touch_one {w h : Nat} (hw : w ≤ 256) (hh : h ≤ 256) (x y : Int) {i0 : Nat} (h0 : ∀ i, i < tlN w h → hasR (tlR w h i) x y = decide (i = i0)) :
    ((List.range (tlN w h)).filter fun i => !(ofN (pcsL w h (ptL w h [⟨x, y, 1, 1⟩])) i).isEmpty) = if i0 < tlN w h then [i0] else [] := by
  rw [← filter_one]
  refine List.filter_congr fun i hi => ?_
  have hi' := List.mem_range.1 hi
  rw [← h0 i hi', Bool.eq_iff_iff]
  have h1 := touch_iff hw hh [⟨x, y, 1, 1⟩] hi'
  have h2 : (!(ofN (pcsL w h (ptL w h [⟨x, y, 1, 1⟩])) i).isEmpty) = true ↔ ofN (pcsL w h (ptL w h [⟨x, y, 1, 1⟩])) i ≠ [] := by
    cases ofN (pcsL w h (ptL w h [⟨x, y, 1, 1⟩])) i <;> simp
  rw [h2, h1]
  constructor
  · rintro ⟨p, q, e1, e2⟩
    obtain ⟨r, hr, hx⟩ := pix_iff.1 e1
    rcases List.mem_cons.1 hr with rfl | hr
    · obtain ⟨-, b1, b2⟩ := has_iff.1 hx
      simp only at b1 b2
      rwa [show p = x by omega, show q = y by omega] at e2
    · cases hr
  · intro hx
    refine ⟨x, y, pix_iff.2 ⟨_, List.mem_cons_self, has_iff.2 ⟨?_, by simp only; omega, by simp only; omega⟩⟩, hx⟩
    have h3 := (tl_has hw hh hi' x y).1 hx
    have n1 := Int.natCast_nonneg (i % clN w)
    have n2 := Int.natCast_nonneg (i / clN w)
    rw [emptyR_false]
    simp only
    omega

end Go.Proofs.Ytjigdgfanpeibaa

/- tiles, plainly: what is cut is cut already; lists together touch what one of them touches. Nothing here speaks of a program. -/
namespace Go.Proofs.Ytjigdgfanpeibaa

theorem pix_fmN (E : List (Nat × Rc)) (i : Nat) (x y : Int) : pix (fmN E i) x y = pix (ofN E i) x y := by unfold fmN; rw [pix_form _ rfl]
theorem spL_pix {w h : Nat} (hw : w ≤ 256) (hh : h ≤ 256) (l : List Rc) (x y : Int) : pix (spL w h l) x y = (pix l x y && hasR (pcR w h) x y) := by
  rw [Bool.eq_iff_iff, Bool.and_eq_true]
  constructor
  · intro hx
    obtain ⟨r, hr, hxr⟩ := pix_iff.1 hx
    unfold spL at hr
    obtain ⟨i, hi, hri⟩ := List.mem_flatMap.1 hr
    have h1 : pix (fmN (pcsL w h (ptL w h l)) i) x y = true := pix_iff.2 ⟨r, hri, hxr⟩
    rw [pix_fmN, pcs_pix hw hh (ptL_in w h l) (List.mem_range.1 hi), ptL_pix, Bool.and_eq_true, Bool.and_eq_true] at h1
    exact h1.1
  · rintro ⟨h1, h2⟩
    obtain ⟨i0, h0, hc⟩ := tile_one hw hh x y
    obtain ⟨he, b1, b2⟩ := has_iff.1 h2
    simp only [pcR] at b1 b2
    rcases hc with ⟨-, -, -, -, hi, -⟩ | ⟨hn, -⟩
    · have h3 : pix (fmN (pcsL w h (ptL w h l)) i0) x y = true := by
        rw [pix_fmN, pcs_pix hw hh (ptL_in w h l) hi, ptL_pix, h1, h2, h0 i0 hi]
        simp
      obtain ⟨r, hr, hxr⟩ := pix_iff.1 h3
      exact pix_iff.2 ⟨r, List.mem_flatMap.2 ⟨i0, List.mem_range.2 hi, hr⟩, hxr⟩
    · exact absurd ⟨by omega, by omega, by omega, by omega⟩ hn
theorem flatMap_congr' {α β : Type} {f g : α → List β} : ∀ {l : List α}, (∀ a ∈ l, f a = g a) → l.flatMap f = l.flatMap g
  | [], _ => rfl
  | a :: l, h => by
    rw [List.flatMap_cons, List.flatMap_cons, h a (by simp), flatMap_congr' (fun b hb => h b (by simp [hb]))]
theorem spL_again {w h : Nat} (hw : w ≤ 256) (hh : h ≤ 256) (l : List Rc) : spL w h (spL w h l) = spL w h l := by
  refine flatMap_congr' fun i hi => ?_
  have hi' := List.mem_range.1 hi
  unfold fmN
  refine form_unique rfl rfl fun x y => ?_
  show pix _ x y = pix _ x y
  rw [pcs_pix hw hh (ptL_in w h _) hi', pcs_pix hw hh (ptL_in w h _) hi', ptL_pix, ptL_pix, spL_pix hw hh]
  cases pix l x y <;> cases hasR (pcR w h) x y <;> rfl
theorem spL_fit (w h : Nat) (l : List Rc) : ∀ r ∈ spL w h l, Fit r := fun r hr => by
  obtain ⟨i, -, hri⟩ := List.mem_flatMap.1 hr
  exact form_fit _ rfl _ _ r hri
theorem spL_len {w h : Nat} (hw : w ≤ 256) (hh : h ≤ 256) (l : List Rc) : (spL w h l).length ≤ 65536 := by
  have h1 := fm_total hw hh (ptL_in w h l) ((List.range (tlN w h)).map fun i => (i, zeroRc))
  have h2 := tlN_le hw hh
  rw [List.flatMap_map, List.length_map, List.length_range] at h1
  have h3 : tlN w h * 256 ≤ 256 * 256 := Nat.mul_le_mul_right _ h2
  exact Nat.le_trans h1 (by omega)

/-- Whether a tile is touched. -/
def tchB (w h : Nat) (l : List Rc) (i : Nat) : Bool := !(ofN (pcsL w h (ptL w h l)) i).isEmpty
theorem tcL_eq (w h : Nat) (l : List Rc) : tcL w h l = (List.range (tlN w h)).filter (tchB w h l) := rfl
theorem tch_iff {w h : Nat} (hw : w ≤ 256) (hh : h ≤ 256) (l : List Rc) {i : Nat} (hi : i < tlN w h) : tchB w h l i = true ↔ ∃ x y, pix l x y = true ∧ hasR (tlR w h i) x y = true := by
  rw [← touch_iff hw hh l hi]
  unfold tchB
  cases ofN (pcsL w h (ptL w h l)) i <;> simp
theorem pix_app (a b : List Rc) (x y : Int) : pix (a ++ b) x y = (pix a x y || pix b x y) := by
  unfold pix; rw [List.any_append]
theorem tch_app {w h : Nat} (hw : w ≤ 256) (hh : h ≤ 256) (a b : List Rc) {i : Nat} (hi : i < tlN w h) : tchB w h (a ++ b) i = (tchB w h a i || tchB w h b i) := by
  rw [Bool.eq_iff_iff, Bool.or_eq_true, tch_iff hw hh _ hi, tch_iff hw hh _ hi, tch_iff hw hh _ hi]
  constructor
  · rintro ⟨x, y, h1, h2⟩
    rw [pix_app, Bool.or_eq_true] at h1
    rcases h1 with h1 | h1
    · exact .inl ⟨x, y, h1, h2⟩
    · exact .inr ⟨x, y, h1, h2⟩
  · rintro (⟨x, y, h1, h2⟩ | ⟨x, y, h1, h2⟩)
    · exact ⟨x, y, by rw [pix_app, h1]; rfl, h2⟩
    · exact ⟨x, y, by rw [pix_app, h1, Bool.or_true], h2⟩
theorem tc_left {w h : Nat} (hw : w ≤ 256) (hh : h ≤ 256) (a b : List Rc) : tcL w h a = (tcL w h (a ++ b)).filter (tchB w h a) := by
  rw [tcL_eq, tcL_eq, List.filter_filter]
  refine List.filter_congr fun i hi => ?_
  rw [tch_app hw hh a b (List.mem_range.1 hi)]
  cases tchB w h a i <;> simp
theorem tc_right {w h : Nat} (hw : w ≤ 256) (hh : h ≤ 256) (a b : List Rc) : tcL w h b = (tcL w h (a ++ b)).filter (tchB w h b) := by
  rw [tcL_eq, tcL_eq, List.filter_filter]
  refine List.filter_congr fun i hi => ?_
  rw [tch_app hw hh a b (List.mem_range.1 hi)]
  cases tchB w h a i <;> cases tchB w h b i <;> simp
theorem tc_one {w h : Nat} (hw : w ≤ 256) (hh : h ≤ 256) (a b : List Rc) {i : Nat} (hi : i ∈ tcL w h (a ++ b)) : (tchB w h a i || tchB w h b i) = true := by
  rw [tcL_eq, List.mem_filter] at hi
  rw [← tch_app hw hh a b (List.mem_range.1 hi.1)]
  exact hi.2
theorem tc_len {w h : Nat} (hw : w ≤ 256) (hh : h ≤ 256) (l : List Rc) : (tcL w h l).length ≤ 256 := by
  have h1 := List.length_filter_le (tchB w h l) (List.range (tlN w h))
  rw [List.length_range] at h1
  exact Nat.le_trans h1 (tlN_le hw hh)

/-- How far a walk along t has come in those of t that are A. -/
def cntA (A : Nat → Bool) (t : List Nat) (j : Nat) : Nat := ((t.take j).filter A).length
theorem cntA_le (A : Nat → Bool) (t : List Nat) (j : Nat) : cntA A t j ≤ (t.filter A).length := by
  have h : t.filter A = (t.take j).filter A ++ (t.drop j).filter A := by rw [← List.filter_append, List.take_append_drop]
  unfold cntA
  rw [h, List.length_append]; omega
theorem cntA_all (A : Nat → Bool) (t : List Nat) : cntA A t t.length = (t.filter A).length := by unfold cntA; rw [List.take_length]
theorem cntA_step {A : Nat → Bool} {t : List Nat} {j : Nat} (hj : j < t.length) :
    (A t[j] = true → (t.filter A)[cntA A t j]? = some t[j] ∧ cntA A t (j + 1) = cntA A t j + 1) ∧ (A t[j] = false → (t.filter A)[cntA A t j]? ≠ some t[j] ∧ cntA A t (j + 1) = cntA A t j) := by
  have h : t.filter A = (t.take j).filter A ++ (t.drop j).filter A := by rw [← List.filter_append, List.take_append_drop]
  have h2 : (t.filter A)[cntA A t j]? = ((t.drop j).filter A)[0]? := by
    unfold cntA
    rw [h, List.getElem?_append_right (Nat.le_refl _), Nat.sub_self]
  have h3 : t.drop j = t[j] :: t.drop (j + 1) := List.drop_eq_getElem_cons hj
  have h4 : cntA A t (j + 1) = cntA A t j + ([t[j]].filter A).length := by
    unfold cntA
    rw [List.take_succ_eq_append_getElem hj, List.filter_append, List.length_append]
  rw [h2, h3, h4]
  constructor
  · intro ha
    rw [List.filter_cons, if_pos ha, List.filter_cons, if_pos ha]
    exact ⟨rfl, rfl⟩
  · intro ha
    rw [List.filter_cons, if_neg (by rw [ha]; decide), List.filter_cons, if_neg (by rw [ha]; decide)]
    refine ⟨fun e => ?_, rfl⟩
    have hm := List.mem_of_getElem? e
    rw [List.mem_filter, ha] at hm
    exact absurd hm.2 (by decide)

end Go.Proofs.Ytjigdgfanpeibaa
