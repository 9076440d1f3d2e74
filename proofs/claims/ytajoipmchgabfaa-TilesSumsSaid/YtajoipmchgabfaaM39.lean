/- Several texts in one, each with its own head. -/
import Derived.Test.YtajoipmchgabfaaM38
import Derived.Test.YtajoipmchgabfaaM35
import Derived.Test.YtajoipmchgabfaaM34
/- tiles, plainly: what is cut is cut already; lists together touch what one of them touches. Nothing here speaks of a program. -/
namespace Go.Proofs.Ytajoipmchgabfaa

theorem pix_fmN (E : List (Nat × Rc)) (i : Nat) (x y : Int) : pix (fmN E i) x y = pix (ofN E i) x y := by unfold fmN; rw [pix_form _ rfl]
theorem spL_pix {w h : Nat} (hw : w ≤ 256) (hh : h ≤ 256) (l : List Rc) (x y : Int) : pix (spL w h l) x y = (pix l x y && hasR (pcR w h) x y) := by
  rw [Bool.eq_iff_iff, Bool.and_eq_true]
  constructor
  · intro hx
    obtain ⟨r, hr, hxr⟩ := pix_iff.1 hx
    unfold spL at hr
    obtain ⟨i, hi, hri⟩ := List.mem_flatMap.1 hr
    have h1 : pix (fmN (pcsL w h (ptL w h l)) i) x y = true := pix_iff.2 ⟨r, hri, hxr⟩
    rw [pix_fmN, pcs_pix hw hh (ptL_in w h l) (List.mem_range.1 hi), ptL_pix, Bool.and_eq_true, Bool.and_eq_true] at h1
    exact h1.1
  · rintro ⟨h1, h2⟩
    obtain ⟨i0, h0, hc⟩ := tile_one hw hh x y
    obtain ⟨he, b1, b2⟩ := has_iff.1 h2
    simp only [pcR] at b1 b2
    rcases hc with ⟨-, -, -, -, hi, -⟩ | ⟨hn, -⟩
    · have h3 : pix (fmN (pcsL w h (ptL w h l)) i0) x y = true := by
        rw [pix_fmN, pcs_pix hw hh (ptL_in w h l) hi, ptL_pix, h1, h2, h0 i0 hi]
        simp
      obtain ⟨r, hr, hxr⟩ := pix_iff.1 h3
      exact pix_iff.2 ⟨r, List.mem_flatMap.2 ⟨i0, List.mem_range.2 hi, hr⟩, hxr⟩
    · exact absurd ⟨by omega, by omega, by omega, by omega⟩ hn
theorem flatMap_congr' {α β : Type} {f g : α → List β} : ∀ {l : List α}, (∀ a ∈ l, f a = g a) → l.flatMap f = l.flatMap g
  | [], _ => rfl
  | a :: l, h => by
    rw [List.flatMap_cons, List.flatMap_cons, h a (by simp), flatMap_congr' (fun b hb => h b (by simp [hb]))]
theorem spL_again {w h : Nat} (hw : w ≤ 256) (hh : h ≤ 256) (l : List Rc) : spL w h (spL w h l) = spL w h l := by
  refine flatMap_congr' fun i hi => ?_
  have hi' := List.mem_range.1 hi
  unfold fmN
  refine form_unique rfl rfl fun x y => ?_
  show pix _ x y = pix _ x y
  rw [pcs_pix hw hh (ptL_in w h _) hi', pcs_pix hw hh (ptL_in w h _) hi', ptL_pix, ptL_pix, spL_pix hw hh]
  cases pix l x y <;> cases hasR (pcR w h) x y <;> rfl
theorem spL_fit (w h : Nat) (l : List Rc) : ∀ r ∈ spL w h l, Fit r := fun r hr => by
  obtain ⟨i, -, hri⟩ := List.mem_flatMap.1 hr
  exact form_fit _ rfl _ _ r hri
theorem spL_len {w h : Nat} (hw : w ≤ 256) (hh : h ≤ 256) (l : List Rc) : (spL w h l).length ≤ 65536 := by
  have h1 := fm_total hw hh (ptL_in w h l) ((List.range (tlN w h)).map fun i => (i, zeroRc))
  have h2 := tlN_le hw hh
  rw [List.flatMap_map, List.length_map, List.length_range] at h1
  have h3 : tlN w h * 256 ≤ 256 * 256 := Nat.mul_le_mul_right _ h2
  exact Nat.le_trans h1 (by omega)

/-- Whether a tile is touched. -/
def tchB (w h : Nat) (l : List Rc) (i : Nat) : Bool := !(ofN (pcsL w h (ptL w h l)) i).isEmpty
theorem tcL_eq (w h : Nat) (l : List Rc) : tcL w h l = (List.range (tlN w h)).filter (tchB w h l) := rfl
theorem tch_iff {w h : Nat} (hw : w ≤ 256) (hh : h ≤ 256) (l : List Rc) {i : Nat} (hi : i < tlN w h) : tchB w h l i = true ↔ ∃ x y, pix l x y = true ∧ hasR (tlR w h i) x y = true := by
  rw [← touch_iff hw hh l hi]
  unfold tchB
  cases ofN (pcsL w h (ptL w h l)) i <;> simp
theorem pix_app (a b : List Rc) (x y : Int) : pix (a ++ b) x y = (pix a x y || pix b x y) := by
  unfold pix; rw [List.any_append]
theorem tch_app {w h : Nat} (hw : w ≤ 256) (hh : h ≤ 256) (a b : List Rc) {i : Nat} (hi : i < tlN w h) : tchB w h (a ++ b) i = (tchB w h a i || tchB w h b i) := by
  rw [Bool.eq_iff_iff, Bool.or_eq_true, tch_iff hw hh _ hi, tch_iff hw hh _ hi, tch_iff hw hh _ hi]
  constructor
  · rintro ⟨x, y, h1, h2⟩
    rw [pix_app, Bool.or_eq_true] at h1
    rcases h1 with h1 | h1
    · exact .inl ⟨x, y, h1, h2⟩
    · exact .inr ⟨x, y, h1, h2⟩
  · rintro (⟨x, y, h1, h2⟩ | ⟨x, y, h1, h2⟩)
    · exact ⟨x, y, by rw [pix_app, h1]; rfl, h2⟩
    · exact ⟨x, y, by rw [pix_app, h1, Bool.or_true], h2⟩
theorem tc_left {w h : Nat} (hw : w ≤ 256) (hh : h ≤ 256) (a b : List Rc) : tcL w h a = (tcL w h (a ++ b)).filter (tchB w h a) := by
  rw [tcL_eq, tcL_eq, List.filter_filter]
  refine List.filter_congr fun i hi => ?_
  rw [tch_app hw hh a b (List.mem_range.1 hi)]
  cases tchB w h a i <;> simp
theorem tc_right {w h : Nat} (hw : w ≤ 256) (hh : h ≤ 256) (a b : List Rc) : tcL w h b = (tcL w h (a ++ b)).filter (tchB w h b) := by
  rw [tcL_eq, tcL_eq, List.filter_filter]
  refine List.filter_congr fun i hi => ?_
  rw [tch_app hw hh a b (List.mem_range.1 hi)]
  cases tchB w h a i <;> cases tchB w h b i <;> simp
theorem tc_one {w h : Nat} (hw : w ≤ 256) (hh : h ≤ 256) (a b : List Rc) {i : Nat} (hi : i ∈ tcL w h (a ++ b)) : (tchB w h a i || tchB w h b i) = true := by
  rw [tcL_eq, List.mem_filter] at hi
  rw [← tch_app hw hh a b (List.mem_range.1 hi.1)]
  exact hi.2
theorem tc_len {w h : Nat} (hw : w ≤ 256) (hh : h ≤ 256) (l : List Rc) : (tcL w h l).length ≤ 256 := by
  have h1 := List.length_filter_le (tchB w h l) (List.range (tlN w h))
  rw [List.length_range] at h1
  exact Nat.le_trans h1 (tlN_le hw hh)

/-- How far a walk along t has come in those of t that are A. -/
def cntA (A : Nat → Bool) (t : List Nat) (j : Nat) : Nat := ((t.take j).filter A).length
theorem cntA_le (A : Nat → Bool) (t : List Nat) (j : Nat) : cntA A t j ≤ (t.filter A).length := by
  have h : t.filter A = (t.take j).filter A ++ (t.drop j).filter A := by rw [← List.filter_append, List.take_append_drop]
  unfold cntA
  rw [h, List.length_append]; omega
theorem cntA_all (A : Nat → Bool) (t : List Nat) : cntA A t t.length = (t.filter A).length := by unfold cntA; rw [List.take_length]
theorem cntA_step {A : Nat → Bool} {t : List Nat} {j : Nat} (hj : j < t.length) :
    (A t[j] = true → (t.filter A)[cntA A t j]? = some t[j] ∧ cntA A t (j + 1) = cntA A t j + 1) ∧ (A t[j] = false → (t.filter A)[cntA A t j]? ≠ some t[j] ∧ cntA A t (j + 1) = cntA A t j) := by
  have h : t.filter A = (t.take j).filter A ++ (t.drop j).filter A := by rw [← List.filter_append, List.take_append_drop]
  have h2 : (t.filter A)[cntA A t j]? = ((t.drop j).filter A)[0]? := by
    unfold cntA
    rw [h, List.getElem?_append_right (Nat.le_refl _), Nat.sub_self]
  have h3 : t.drop j = t[j] :: t.drop (j + 1) := List.drop_eq_getElem_cons hj
  have h4 : cntA A t (j + 1) = cntA A t j + ([t[j]].filter A).length := by
    unfold cntA
    rw [List.take_succ_eq_append_getElem hj, List.filter_append, List.length_append]
  rw [h2, h3, h4]
  constructor
  · intro ha
    rw [List.filter_cons, if_pos ha, List.filter_cons, if_pos ha]
    exact ⟨rfl, rfl⟩
  · intro ha
    rw [List.filter_cons, if_neg (by rw [ha]; decide), List.filter_cons, if_neg (by rw [ha]; decide)]
    refine ⟨fun e => ?_, rfl⟩
    have hm := List.mem_of_getElem? e
    rw [List.mem_filter, ha] at hm
    exact absurd hm.2 (by decide)

end Go.Proofs.Ytajoipmchgabfaa

/- tiles, plainly: areas of tiles and of what is cut. Nothing here speaks of a program. -/
namespace Go.Proofs.Ytajoipmchgabfaa

theorem tl_apart {w h : Nat} (hw : w ≤ 256) (hh : h ≤ 256) {i j : Nat} (hi : i < tlN w h) (hj : j < tlN w h) {x y : Int} (h1 : hasR (tlR w h i) x y = true) (h2 : hasR (tlR w h j) x y = true) : i = j := by
  obtain ⟨i0, h0, -⟩ := tile_one hw hh x y
  rw [h0 i hi, decide_eq_true_iff] at h1
  rw [h0 j hj, decide_eq_true_iff] at h2
  omega
theorem tl_sub {w h i : Nat} {x y : Int} (hx : hasR (tlR w h i) x y = true) : hasR (pcR w h) x y = true := by
  unfold tlR til at hx
  rw [has_and, Bool.and_eq_true] at hx
  exact hx.2
theorem grL_pix {w h : Nat} (hw : w ≤ 256) (hh : h ≤ 256) (x y : Int) : pix (grL w h) x y = hasR (pcR w h) x y := by
  rw [Bool.eq_iff_iff]
  constructor
  · intro hx
    obtain ⟨r, hr, hxr⟩ := pix_iff.1 hx
    obtain ⟨i, -, rfl⟩ := List.mem_map.1 hr
    exact tl_sub hxr
  · intro h2
    obtain ⟨i0, h0, hc⟩ := tile_one hw hh x y
    obtain ⟨he, b1, b2⟩ := has_iff.1 h2
    simp only [pcR] at b1 b2
    rcases hc with ⟨-, -, -, -, hi, -⟩ | ⟨hn, -⟩
    · exact pix_iff.2 ⟨_, List.mem_map.2 ⟨i0, List.mem_range.2 hi, rfl⟩, by rw [h0 i0 hi]; simp⟩
    · exact absurd ⟨by omega, by omega, by omega, by omega⟩ hn
theorem grL_full {w h : Nat} (hw : w ≤ 256) (hh : h ≤ 256) : ∀ r ∈ grL w h, emptyR r = false ∧ r.a ≤ 16 ∧ r.b ≤ 16 := fun r hr => by
  obtain ⟨i, hi, rfl⟩ := List.mem_map.1 hr
  have hi' := List.mem_range.1 hi
  obtain ⟨-, he⟩ := tl_in hw hh hi'
  refine ⟨he, ?_⟩
  obtain ⟨c1, c2, -, -⟩ := corner_has he
  have d1 := (tl_has hw hh hi' _ _).1 c1
  have d2 := (tl_has hw hh hi' _ _).1 c2
  omega
theorem grL_apart {w h : Nat} (hw : w ≤ 256) (hh : h ≤ 256) : Apart (grL w h) := by
  unfold Apart grL
  refine List.pairwise_map.2 (List.Pairwise.imp_of_mem (R := fun a b => a < b) (fun {a b} ha hb hab x y hc => ?_) List.pairwise_lt_range)
  have := tl_apart hw hh (List.mem_range.1 ha) (List.mem_range.1 hb) hc.1 hc.2
  omega
theorem grL_area {w h : Nat} (hw : w ≤ 256) (hh : h ≤ 256) (hw1 : 1 ≤ w) (hh1 : 1 ≤ h) : areaS (grL w h) = (w : Int) * h := by
  have he : emptyR (pcR w h) = false := by rw [emptyR_false]; simp only [pcR]; omega
  rw [← sumP_list 2097152 2097152 rfl rfl _ (grL_apart hw hh) (fun r hr => (grL_full hw hh r hr).1), sumP_congr (fun x y => by rw [grL_pix hw hh]), sumP_rect he 2097152 2097152 rfl rfl]
  unfold areaR
  rw [if_neg (by rw [he]; decide)]
  rfl
theorem spL_full (w h : Nat) (l : List Rc) : ∀ r ∈ spL w h l, emptyR r = false := fun r hr => by
  obtain ⟨i, -, hri⟩ := List.mem_flatMap.1 hr
  exact form_full _ rfl _ _ r hri
theorem fm_in {w h : Nat} (hw : w ≤ 256) (hh : h ≤ 256) (l : List Rc) {i : Nat} (hi : i < tlN w h) {r : Rc} (hr : r ∈ fmN (pcsL w h (ptL w h l)) i) {x y : Int} (hx : hasR r x y = true) : hasR (tlR w h i) x y = true := by
  have h1 : pix (fmN (pcsL w h (ptL w h l)) i) x y = true := pix_iff.2 ⟨r, hr, hx⟩
  rw [pix_fmN, pcs_pix hw hh (ptL_in w h l) hi, Bool.and_eq_true] at h1
  exact h1.2
theorem spL_apart {w h : Nat} (hw : w ≤ 256) (hh : h ≤ 256) (l : List Rc) : Apart (spL w h l) := by
  unfold Apart spL
  refine List.pairwise_flatMap.2 ⟨fun i _ => (bands_sem (fun p _ => p) rfl _ _).1.apart, List.Pairwise.imp_of_mem (R := fun a b => a < b) (fun {a b} ha hb hab r hr s hs x y hc => ?_) List.pairwise_lt_range⟩
  have := tl_apart hw hh (List.mem_range.1 ha) (List.mem_range.1 hb) (fm_in hw hh l (List.mem_range.1 ha) hr hc.1) (fm_in hw hh l (List.mem_range.1 hb) hs hc.2)
  omega
theorem spL_area {w h : Nat} (hw : w ≤ 256) (hh : h ≤ 256) (l : List Rc) : areaS (spL w h l) = areaS (formL (fun p q => p && q) l [pcR w h]) := by
  rw [← sumP_list 2097152 2097152 rfl rfl _ (spL_apart hw hh l) (spL_full w h l), area_form _ rfl]
  refine sumP_congr (fun x y => ?_) _ _
  rw [spL_pix hw hh, show pix [pcR w h] x y = hasR (pcR w h) x y by simp [pix]]
/-- A piece lies in the tile of its number, and in no other one. -/
theorem fm_only {w h : Nat} (hw : w ≤ 256) (hh : h ≤ 256) (l : List Rc) {i j : Nat} (hi : i < tlN w h) (hj : j < tlN w h) {r : Rc} (hr : r ∈ fmN (pcsL w h (ptL w h l)) i) (hin : ∀ x y, hasR r x y = true → hasR (tlR w h j) x y = true) : i = j := by
  have he := form_full (fun p _ => p) rfl _ _ r hr
  obtain ⟨c1, -, -, -⟩ := corner_has he
  exact tl_apart hw hh hi hj (fm_in hw hh l hi hr c1) (hin _ _ c1)
/-- Touched are the tiles that have a piece of what is cut. -/
theorem tch_cut {w h : Nat} (hw : w ≤ 256) (hh : h ≤ 256) (l : List Rc) {i : Nat} (hi : i < tlN w h) : tchB w h l i = !(formL (fun p q => p && q) (spL w h l) [tlR w h i]).isEmpty := by
  rw [Bool.eq_iff_iff, tch_iff hw hh l hi]
  have hne : (!(formL (fun p q => p && q) (spL w h l) [tlR w h i]).isEmpty) = true ↔ formL (fun p q => p && q) (spL w h l) [tlR w h i] ≠ [] := by
    cases formL (fun p q => p && q) (spL w h l) [tlR w h i] <;> simp
  rw [hne]
  have hp : ∀ x y, pix (formL (fun p q => p && q) (spL w h l) [tlR w h i]) x y = (pix l x y && hasR (tlR w h i) x y) := fun x y => by
    rw [pix_form _ rfl, spL_pix hw hh, show pix [tlR w h i] x y = hasR (tlR w h i) x y by simp [pix]]
    cases hq : hasR (tlR w h i) x y with
    | false => simp
    | true => rw [tl_sub hq]; simp
  constructor
  · rintro ⟨x, y, h1, h2⟩ e
    have := hp x y
    rw [e, h1, h2, pix_nil] at this
    cases this
  · intro hn
    obtain ⟨r, hr⟩ := List.exists_mem_of_ne_nil _ hn
    obtain ⟨c1, -, -, -⟩ := corner_has (form_full _ rfl _ _ r hr)
    have h1 := pix_iff.2 ⟨r, hr, c1⟩
    rw [hp, Bool.and_eq_true] at h1
    exact ⟨_, _, h1.1, h1.2⟩

/-- The tiles' numbers beside what is cut. -/
def tagF (f : Nat → List Rc) (l : List Nat) : List Nat := l.flatMap fun i => List.replicate (f i).length i
theorem tag_len (f : Nat → List Rc) : ∀ l : List Nat, (tagF f l).length = (l.flatMap f).length
  | [] => rfl
  | a :: l => by
    have := tag_len f l
    unfold tagF at this ⊢
    rw [List.flatMap_cons, List.flatMap_cons, List.length_append, List.length_append, List.length_replicate, this]
theorem tag_at (f : Nat → List Rc) : ∀ (l : List Nat) (k : Nat) (r : Rc), (l.flatMap f)[k]? = some r → ∃ t, (tagF f l)[k]? = some t ∧ t ∈ l ∧ r ∈ f t
  | [], k, r, h => by simp at h
  | a :: l, k, r, h => by
    rw [List.flatMap_cons] at h
    unfold tagF
    rw [List.flatMap_cons]
    by_cases hk : k < (f a).length
    · rw [List.getElem?_append_left hk] at h
      refine ⟨a, ?_, by simp, List.mem_of_getElem? h⟩
      rw [List.getElem?_append_left (by rw [List.length_replicate]; exact hk)]
      simp [hk]
    · rw [List.getElem?_append_right (by omega)] at h
      obtain ⟨t, h1, h2, h3⟩ := tag_at f l _ r h
      refine ⟨t, ?_, by simp [h2], h3⟩
      rw [List.getElem?_append_right (by rw [List.length_replicate]; omega), List.length_replicate]
      exact h1
theorem tag_sorted (f : Nat → List Rc) : ∀ l : List Nat, l.Pairwise (· ≤ ·) → (tagF f l).Pairwise (· ≤ ·)
  | [], _ => List.Pairwise.nil
  | a :: l, h => by
    obtain ⟨h1, h2⟩ := List.pairwise_cons.1 h
    have ih := tag_sorted f l h2
    unfold tagF at ih ⊢
    rw [List.flatMap_cons]
    refine List.pairwise_append.2 ⟨List.pairwise_replicate.2 (.inr (Nat.le_refl a)), ih, fun x hx y hy => ?_⟩
    obtain ⟨-, rfl⟩ := List.mem_replicate.1 hx
    obtain ⟨i, hi, hy⟩ := List.mem_flatMap.1 hy
    obtain ⟨-, rfl⟩ := List.mem_replicate.1 hy
    exact h1 y hi
/-- .. of a picture: in which tile the k-th piece lies, and that no later one lies in an earlier tile. -/
def tgN (w h : Nat) (l : List Rc) (k : Nat) : Nat := (tagF (fmN (pcsL w h (ptL w h l))) (List.range (tlN w h))).getD k 0
theorem tg_at {w h : Nat} (l : List Rc) {k : Nat} {r : Rc} (hr : (spL w h l)[k]? = some r) : tgN w h l k < tlN w h ∧ r ∈ fmN (pcsL w h (ptL w h l)) (tgN w h l k) := by
  obtain ⟨t, h1, h2, h3⟩ := tag_at _ _ _ _ hr
  have e : tgN w h l k = t := by unfold tgN; rw [List.getD_eq_getElem?_getD, h1]; rfl
  rw [e]
  exact ⟨List.mem_range.1 h2, h3⟩
theorem tg_mono {w h : Nat} (l : List Rc) {k m : Nat} (hkm : k ≤ m) (hm : m < (spL w h l).length) : tgN w h l k ≤ tgN w h l m := by
  have hs := tag_sorted (fmN (pcsL w h (ptL w h l))) (List.range (tlN w h)) (List.pairwise_lt_range.imp (fun h => Nat.le_of_lt h))
  have hl : m < (tagF (fmN (pcsL w h (ptL w h l))) (List.range (tlN w h))).length := by rw [tag_len]; exact hm
  unfold tgN
  rw [List.getD_eq_getElem?_getD, List.getD_eq_getElem?_getD, List.getElem?_eq_getElem hl, List.getElem?_eq_getElem (show k < _ by omega)]
  simp only [Option.getD_some]
  rcases Nat.lt_or_ge k m with h1 | h1
  · exact List.pairwise_iff_getElem.1 hs k m (by omega) hl h1
  · obtain rfl : k = m := by omega
    exact Nat.le_refl _
theorem in_tile {w h : Nat} (hw : w ≤ 256) (hh : h ≤ 256) (l : List Rc) {t at' : Nat} (ht : t < tlN w h) (ha : at' < tlN w h) {r : Rc} (hr : r ∈ fmN (pcsL w h (ptL w h l)) t) : inR r (tlR w h at') = decide (at' = t) := by
  have he := form_full (fun p _ => p) rfl _ _ r hr
  rw [Bool.eq_iff_iff, decide_eq_true_iff, in_iff]
  constructor
  · rintro (h1 | ⟨-, h2, h3, h4, h5, h6⟩)
    · rw [he] at h1; cases h1
    · refine (fm_only hw hh l ht ha hr fun x y hx => ?_).symm
      obtain ⟨-, b1, b2⟩ := has_iff.1 hx
      exact has_iff.2 ⟨h2, by omega, by omega⟩
  · rintro rfl
    obtain ⟨c1, c2, c3, c4⟩ := corner_has he
    have d1 := has_iff.1 (fm_in hw hh l ha hr c1)
    have d2 := has_iff.1 (fm_in hw hh l ha hr c2)
    have e := emptyR_false.1 he
    exact .inr ⟨he, d1.1, by omega, by omega, by omega, by omega⟩
theorem same_yes {a b : List Rc} (h : ∀ x y, pix a x y = pix b x y) : decide (bandsOf (stripsL (fun p q => p != q) a b) = []) = true := decide_eq_true (form_canon (mf := fun p q => p != q) rfl (bs := []) trivial (by simp) (fun x y => by rw [h]; cases pix b x y <;> rfl))
theorem areaS_le (l : List Rc) (i : Nat) : 0 ≤ areaS (l.take i) ∧ areaS (l.take i) ≤ areaS l := by
  have h1 : areaS l = areaS (l.take i) + areaS (l.drop i) := by rw [← areaS_append, List.take_append_drop]
  have h2 := areaS_nonneg (l.take i)
  have h3 := areaS_nonneg (l.drop i)
  omega

end Go.Proofs.Ytajoipmchgabfaa
