/- tiles, plainly: what is cut is cut already; lists together touch what one of them touches. Nothing here speaks of a program. -/
import Derived.Test.YtjigdgfanpeibaaTC41
import Derived.Test.YtjigdgfanpeibaaTC38
import Derived.Test.YtjigdgfanpeibaaTC37
namespace Go.Proofs.Ytjigdgfanpeibaa

theorem pix_fmN (E : List (Nat × Rc)) (i : Nat) (x y : Int) : pix (fmN E i) x y = pix (ofN E i) x y := by unfold fmN; rw [pix_form _ rfl]
theorem spL_pix {w h : Nat} (hw : w ≤ 256) (hh : h ≤ 256) (l : List Rc) (x y : Int) : pix (spL w h l) x y = (pix l x y && hasR (pcR w h) x y) := by
  rw [Bool.eq_iff_iff, Bool.and_eq_true]
  constructor
  · intro hx
    obtain ⟨r, hr, hxr⟩ := pix_iff.1 hx
    unfold spL at hr
    obtain ⟨i, hi, hri⟩ := List.mem_flatMap.1 hr
    have h1 : pix (fmN (pcsL w h (ptL w h l)) i) x y = true := pix_iff.2 ⟨r, hri, hxr⟩
    rw [pix_fmN, pcs_pix hw hh (ptL_in w h l) (List.mem_range.1 hi), ptL_pix, Bool.and_eq_true, Bool.and_eq_true] at h1
    exact h1.1
  · rintro ⟨h1, h2⟩
    obtain ⟨i0, h0, hc⟩ := tile_one hw hh x y
    obtain ⟨he, b1, b2⟩ := has_iff.1 h2
    simp only [pcR] at b1 b2
    rcases hc with ⟨-, -, -, -, hi, -⟩ | ⟨hn, -⟩
    · have h3 : pix (fmN (pcsL w h (ptL w h l)) i0) x y = true := by
        rw [pix_fmN, pcs_pix hw hh (ptL_in w h l) hi, ptL_pix, h1, h2, h0 i0 hi]
        simp
      obtain ⟨r, hr, hxr⟩ := pix_iff.1 h3
      exact pix_iff.2 ⟨r, List.mem_flatMap.2 ⟨i0, List.mem_range.2 hi, hr⟩, hxr⟩
    · exact absurd ⟨by omega, by omega, by omega, by omega⟩ hn
theorem flatMap_congr' {α β : Type} {f g : α → List β} : ∀ {l : List α}, (∀ a ∈ l, f a = g a) → l.flatMap f = l.flatMap g
  | [], _ => rfl
  | a :: l, h => by
    rw [List.flatMap_cons, List.flatMap_cons, h a (by simp), flatMap_congr' (fun b hb => h b (by simp [hb]))]
theorem spL_again {w h : Nat} (hw : w ≤ 256) (hh : h ≤ 256) (l : List Rc) : spL w h (spL w h l) = spL w h l := by
  refine flatMap_congr' fun i hi => ?_
  have hi' := List.mem_range.1 hi
  unfold fmN
  refine form_unique rfl rfl fun x y => ?_
  show pix _ x y = pix _ x y
  rw [pcs_pix hw hh (ptL_in w h _) hi', pcs_pix hw hh (ptL_in w h _) hi', ptL_pix, ptL_pix, spL_pix hw hh]
  cases pix l x y <;> cases hasR (pcR w h) x y <;> rfl
theorem spL_fit (w h : Nat) (l : List Rc) : ∀ r ∈ spL w h l, Fit r := fun r hr => by
  obtain ⟨i, -, hri⟩ := List.mem_flatMap.1 hr
  exact form_fit _ rfl _ _ r hri
theorem spL_len {w h : Nat} (hw : w ≤ 256) (hh : h ≤ 256) (l : List Rc) : (spL w h l).length ≤ 65536 := by
  have h1 := fm_total hw hh (ptL_in w h l) ((List.range (tlN w h)).map fun i => (i, zeroRc))
  have h2 := tlN_le hw hh
  rw [List.flatMap_map, List.length_map, List.length_range] at h1
  have h3 : tlN w h * 256 ≤ 256 * 256 := Nat.mul_le_mul_right _ h2
  exact Nat.le_trans h1 (by omega)

/-- Whether a tile is touched. -/
def tchB (w h : Nat) (l : List Rc) (i : Nat) : Bool := !(ofN (pcsL w h (ptL w h l)) i).isEmpty
theorem tcL_eq (w h : Nat) (l : List Rc) : tcL w h l = (List.range (tlN w h)).filter (tchB w h l) := rfl
theorem tch_iff {w h : Nat} (hw : w ≤ 256) (hh : h ≤ 256) (l : List Rc) {i : Nat} (hi : i < tlN w h) : tchB w h l i = true ↔ ∃ x y, pix l x y = true ∧ hasR (tlR w h i) x y = true := by
  rw [← touch_iff hw hh l hi]
  unfold tchB
  cases ofN (pcsL w h (ptL w h l)) i <;> simp
theorem pix_app (a b : List Rc) (x y : Int) : pix (a ++ b) x y = (pix a x y || pix b x y) := by
  unfold pix; rw [List.any_append]
theorem tch_app {w h : Nat} (hw : w ≤ 256) (hh : h ≤ 256) (a b : List Rc) {i : Nat} (hi : i < tlN w h) : tchB w h (a ++ b) i = (tchB w h a i || tchB w h b i) := by
  rw [Bool.eq_iff_iff, Bool.or_eq_true, tch_iff hw hh _ hi, tch_iff hw hh _ hi, tch_iff hw hh _ hi]
  constructor
  · rintro ⟨x, y, h1, h2⟩
    rw [pix_app, Bool.or_eq_true] at h1
    rcases h1 with h1 | h1
    · exact .inl ⟨x, y, h1, h2⟩
    · exact .inr ⟨x, y, h1, h2⟩
  · rintro (⟨x, y, h1, h2⟩ | ⟨x, y, h1, h2⟩)
    · exact ⟨x, y, by rw [pix_app, h1]; rfl, h2⟩
    · exact ⟨x, y, by rw [pix_app, h1, Bool.or_true], h2⟩
theorem tc_left {w h : Nat} (hw : w ≤ 256) (hh : h ≤ 256) (a b : List Rc) : tcL w h a = (tcL w h (a ++ b)).filter (tchB w h a) := by
  rw [tcL_eq, tcL_eq, List.filter_filter]
  refine List.filter_congr fun i hi => ?_
  rw [tch_app hw hh a b (List.mem_range.1 hi)]
  cases tchB w h a i <;> simp
theorem tc_right {w h : Nat} (hw : w ≤ 256) (hh : h ≤ 256) (a b : List Rc) : tcL w h b = (tcL w h (a ++ b)).filter (tchB w h b) := by
  rw [tcL_eq, tcL_eq, List.filter_filter]
  refine List.filter_congr fun i hi => ?_
  rw [tch_app hw hh a b (List.mem_range.1 hi)]
  cases tchB w h a i <;> cases tchB w h b i <;> simp
theorem tc_one {w h : Nat} (hw : w ≤ 256) (hh : h ≤ 256) (a b : List Rc) {i : Nat} (hi : i ∈ tcL w h (a ++ b)) : (tchB w h a i || tchB w h b i) = true := by
  rw [tcL_eq, List.mem_filter] at hi
  rw [← tch_app hw hh a b (List.mem_range.1 hi.1)]
  exact hi.2
theorem tc_len {w h : Nat} (hw : w ≤ 256) (hh : h ≤ 256) (l : List Rc) : (tcL w h l).length ≤ 256 := by
  have h1 := List.length_filter_le (tchB w h l) (List.range (tlN w h))
  rw [List.length_range] at h1
  exact Nat.le_trans h1 (tlN_le hw hh)

/-- How far a walk along t has come in those of t that are A. -/
def cntA (A : Nat → Bool) (t : List Nat) (j : Nat) : Nat := ((t.take j).filter A).length
theorem cntA_le (A : Nat → Bool) (t : List Nat) (j : Nat) : cntA A t j ≤ (t.filter A).length := by
  have h : t.filter A = (t.take j).filter A ++ (t.drop j).filter A := by rw [← List.filter_append, List.take_append_drop]
  unfold cntA
  rw [h, List.length_append]; omega
theorem cntA_all (A : Nat → Bool) (t : List Nat) : cntA A t t.length = (t.filter A).length := by unfold cntA; rw [List.take_length]
theorem cntA_step {A : Nat → Bool} {t : List Nat} {j : Nat} (hj : j < t.length) :
    (A t[j] = true → (t.filter A)[cntA A t j]? = some t[j] ∧ cntA A t (j + 1) = cntA A t j + 1) ∧ (A t[j] = false → (t.filter A)[cntA A t j]? ≠ some t[j] ∧ cntA A t (j + 1) = cntA A t j) := by
  have h : t.filter A = (t.take j).filter A ++ (t.drop j).filter A := by rw [← List.filter_append, List.take_append_drop]
  have h2 : (t.filter A)[cntA A t j]? = ((t.drop j).filter A)[0]? := by
    unfold cntA
    rw [h, List.getElem?_append_right (Nat.le_refl _), Nat.sub_self]
  have h3 : t.drop j = t[j] :: t.drop (j + 1) := List.drop_eq_getElem_cons hj
  have h4 : cntA A t (j + 1) = cntA A t j + ([t[j]].filter A).length := by
    unfold cntA
    rw [List.take_succ_eq_append_getElem hj, List.filter_append, List.length_append]
  rw [h2, h3, h4]
  constructor
  · intro ha
    rw [List.filter_cons, if_pos ha, List.filter_cons, if_pos ha]
    exact ⟨rfl, rfl⟩
  · intro ha
    rw [List.filter_cons, if_neg (by rw [ha]; decide), List.filter_cons, if_neg (by rw [ha]; decide)]
    refine ⟨fun e => ?_, rfl⟩
    have hm := List.mem_of_getElem? e
    rw [List.mem_filter, ha] at hm
    exact absurd hm.2 (by decide)

end Go.Proofs.Ytjigdgfanpeibaa
