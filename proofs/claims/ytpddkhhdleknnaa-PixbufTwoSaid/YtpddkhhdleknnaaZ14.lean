/- Several texts in one, each with its own head. -/
import Derived.Test.YtpddkhhdleknnaaZ11
/- Plain facts on parts of pictures, and on parts laid back: nothing here walks. -/
namespace Go.Proofs.Ytpddkhhdleknnaa
open Go.RowKit

theorem fit_of {fw px py aw ah n : Nat} (h1 : px + aw ≤ fw) {fh : Nat} (h2 : py + ah ≤ fh) (hn : fw * fh = n) : ∀ k, k < ah → (py + k) * fw + px + aw ≤ n := fun k hk => by
  rw [← hn]
  have : (py + k + 1) * fw ≤ fh * fw := Nat.mul_le_mul_right fw (by omega)
  rw [Nat.add_mul (py + k), Nat.one_mul, Nat.mul_comm fh fw] at this
  omega

/-- Two lists of pixels of one size, alike pixel by pixel. -/
theorem pix_ext {wd ht : Nat} {A B : List Int} (hA : A.length = wd * ht) (hB : B.length = wd * ht) (h : ∀ x y, x < wd → y < ht → A[y * wd + x]? = B[y * wd + x]?) : A = B := by
  refine List.ext_getElem? fun i => ?_
  by_cases hi : i < wd * ht
  · have hw : 0 < wd := by
      rcases Nat.eq_zero_or_pos wd with e | e
      · subst e; simp at hi
      · exact e
    have hy : i / wd < ht := by rw [Nat.div_lt_iff_lt_mul hw, Nat.mul_comm]; exact hi
    have hx : i % wd < wd := Nat.mod_lt _ hw
    have e : i / wd * wd + i % wd = i := by rw [Nat.mul_comm]; exact Nat.div_add_mod i wd
    have := h _ _ hx hy
    rw [e] at this
    exact this
  · rw [List.getElem?_eq_none (by omega), List.getElem?_eq_none (by omega)]

theorem U24.get {L : List Int} (h : U24 L) {i : Nat} (hi : i < L.length) : L[i]?.map cut24 = L[i]? := by
  rw [List.getElem?_eq_getElem hi, Option.map_some, cut24_same (h _ (List.getElem_mem hi))]

theorem place_lt {wd ht x y : Nat} (hx : x < wd) (hy : y < ht) : y * wd + x < wd * ht := by
  have : (y + 1) * wd ≤ ht * wd := Nat.mul_le_mul_right wd (by omega)
  rw [Nat.add_mul, Nat.one_mul, Nat.mul_comm ht wd] at this
  omega

/-- The part of a part is the part. -/
theorem cutL_cutL {wd ht px py aw ah qx qy qa qb : Nat} {L : List Int} (hu : U24 L) (hl : wd * ht = L.length) (h1 : px + aw ≤ wd) (h2 : py + ah ≤ ht) (h3 : qx + qa ≤ aw) (h4 : qy + qb ≤ ah) :
    cutL aw qx qy qa qb (cutL wd px py aw ah L) = cutL wd (qx + px) (qy + py) qa qb L := by
  have f1 := fit_of h1 h2 hl
  obtain ⟨c1, c2⟩ := cutL_ok hu.u32 f1
  have f2 := fit_of h3 h4 c1.symm
  have f3 := fit_of (px := qx + px) (py := qy + py) (aw := qa) (ah := qb) (by omega) (by omega) hl
  obtain ⟨d1, -⟩ := cutL_ok c2.u32 f2
  obtain ⟨e1, -⟩ := cutL_ok hu.u32 f3
  refine pix_ext d1 e1 fun x y hx hy => ?_
  rw [cutL_get c2.u32 f2 hx hy, cutL_get hu.u32 f3 hx hy, show (qy + y) * aw + qx + x = (qy + y) * aw + (qx + x) by omega, cutL_get hu.u32 f1 (by omega) (by omega)]
  rw [show (py + (qy + y)) * wd + px + (qx + x) = (qy + py + y) * wd + (qx + px) + x by
    rw [show py + (qy + y) = qy + py + y by omega]; omega]
  rw [Option.map_map]
  congr 1
  funext v
  simp [cut24]

/-- A part that is laid where it was leaves the picture. -/
theorem layL_back {wd ht px py aw ah : Nat} {L : List Int} (hu : U24 L) (hl : wd * ht = L.length) (h1 : px + aw ≤ wd) (h2 : py + ah ≤ ht) :
    layL wd px py aw aw 0 0 (cutL wd px py aw ah L) L ah = L := by
  have f1 := fit_of h1 h2 hl
  obtain ⟨c1, c2⟩ := cutL_ok hu.u32 f1
  have f2 := fit_of (fw := aw) (px := 0) (py := 0) (aw := aw) (ah := ah) (by omega) (show 0 + ah ≤ ah by omega) c1.symm
  have hf : ∀ k, k < ah → (py + k) * wd + px + aw ≤ L.length ∧ (0 + k) * aw + 0 + aw ≤ (cutL wd px py aw ah L).length := fun k hk => ⟨f1 k hk, f2 k hk⟩
  refine pix_ext (wd := wd) (ht := ht) (by rw [layL_len0 c2.u32 hu.u32 hf, hl]) hl.symm fun x y hx hy => ?_
  rw [layL_get wd px py aw aw 0 0 _ _ c2.u32 hu.u32 h1 hx ah hf]
  by_cases h : (px ≤ x ∧ x < px + aw) ∧ (py ≤ y ∧ y < py + ah)
  · rw [if_pos h, show (0 + (y - py)) * aw + 0 + (x - px) = (y - py) * aw + (x - px) by simp, cutL_get hu.u32 f1 (by omega) (by omega)]
    rw [show (py + (y - py)) * wd + px + (x - px) = y * wd + x by rw [show py + (y - py) = y by omega]; omega]
    have hi : y * wd + x < L.length := by rw [← hl]; exact place_lt hx hy
    rw [hu.get hi, hu.get hi]
  · rw [if_neg h]

theorem shiftR_yes {r : Rc} {dx dy : Int} (hg : goodR r = true) (hx : -1048576 - r.x ≤ dx ∧ dx ≤ 1048576 - (r.x + r.a)) (hy : -1048576 - r.y ≤ dy ∧ dy ≤ 1048576 - (r.y + r.b)) : shiftR r dx dy = ⟨r.x + dx, r.y + dy, r.a, r.b⟩ := by
  unfold shiftR
  rw [if_pos (by rw [hg]; simp only [wayShift, decide_eq_true hx, decide_eq_true hy, Bool.and_self])]

/-- The rectangles of a part that is laid back. -/
theorem shift_to {px py aw ah : Nat} (h1 : px + aw ≤ 256) (h2 : py + ah ≤ 256) : shiftR ⟨0, 0, (aw : Int), (ah : Int)⟩ (px : Int) (py : Int) = ⟨(px : Int), (py : Int), (aw : Int), (ah : Int)⟩ := by
  rw [shiftR_yes (goodR_iff.2 (by simp only; omega)) (by simp only; omega) (by simp only; omega)]
  simp
theorem neg_wrap {n : Nat} (h : n ≤ 1048576) : IntKind.i64.wrap (-(n : Int)) = -(n : Int) := IntWalk.i64_in _ (by omega)
theorem shift_home {px py aw ah : Nat} (h1 : px + aw ≤ 256) (h2 : py + ah ≤ 256) : shiftR ⟨(px : Int), (py : Int), (aw : Int), (ah : Int)⟩ (IntKind.i64.wrap (-(px : Int))) (IntKind.i64.wrap (-(py : Int))) = ⟨((0 : Nat) : Int), ((0 : Nat) : Int), (aw : Int), (ah : Int)⟩ := by
  rw [neg_wrap (by omega), neg_wrap (by omega), shiftR_yes (goodR_iff.2 (by simp only; omega)) (by simp only; omega) (by simp only; omega)]
  refine Rc.eq_of ?_ ?_ rfl rfl <;> (simp only; omega)
theorem and_in {r s : Rc} (h : inR r s = true) (he : emptyR r = false) : andR r s = r := by
  unfold inR at h
  rw [he, Bool.false_or] at h
  exact eqR_iff.1 h
theorem shift_more {qx qy qa qb px py : Nat} (h0 : qx + qa ≤ 256) (h1 : qy + qb ≤ 256) (h2 : px ≤ 256) (h3 : py ≤ 256) : shiftR ⟨(qx : Int), (qy : Int), (qa : Int), (qb : Int)⟩ (px : Int) (py : Int) = ⟨((qx + px : Nat) : Int), ((qy + py : Nat) : Int), (qa : Int), (qb : Int)⟩ := by
  rw [shiftR_yes (goodR_iff.2 (by simp only; omega)) (by simp only; omega) (by simp only; omega)]
  refine Rc.eq_of ?_ ?_ rfl rfl <;> (simp only; omega)

theorem Turns.stays {w w' : World} {g B wd ht h : Nat} {M : List Int} (ht' : Turns (fun b => b = g) w w') (hB : BufAt w B wd ht h M) (h1 : B ≠ g) (h2 : h ≠ g) : BufAt w' B wd ht h M :=
  hB.same (ht'.block B hB.lt h1) (ht'.block h hB.pix.lt h2)

theorem pict_open {wd ht : Int} {p : Option Addr} {S : List Int} {W : World} (h : pictB wd ht S.length = true) (hr : RowAt encU 1 W p S) :
    ∃ (a b fb fo : Nat), wd = a ∧ ht = b ∧ (1 ≤ a ∧ a ≤ 256) ∧ (1 ≤ b ∧ b ≤ 256) ∧ a * b = S.length ∧ p = some ⟨fb, fo, none⟩ := by
  unfold pictB at h
  rw [Bool.and_eq_true, sizedB_iff] at h
  obtain ⟨⟨h1, h2⟩, h3⟩ := h
  have h3' : (S.length : Int) = wd * ht := of_decide_eq_true h3
  obtain ⟨a, rfl⟩ := Int.eq_ofNat_of_zero_le (show 0 ≤ wd by omega)
  obtain ⟨b, rfl⟩ := Int.eq_ofNat_of_zero_le (show 0 ≤ ht by omega)
  have h4 : a * b = S.length := by
    have : ((a * b : Nat) : Int) = (S.length : Int) := by rw [Int.natCast_mul]; exact h3'.symm
    omega
  rcases hr with ⟨-, rfl⟩ | ⟨fb, fo, rfl, -, -⟩
  · exfalso
    have := Nat.mul_pos (show 0 < a by omega) (show 0 < b by omega)
    simp only [List.length_nil] at h4
    omega
  · exact ⟨a, b, fb, fo, rfl, rfl, by omega, by omega, h4, rfl⟩

theorem shift_fit' (r : Rc) (dx dy : Int) : Fit (shiftR r dx dy) := by
  unfold shiftR
  split
  · rename_i h
    simp only [Bool.and_eq_true, wayShift, decide_eq_true_eq] at h
    have := goodR_iff.1 h.1
    exact ⟨by simp only; omega, by simp only; omega⟩
  · exact ⟨by decide, by decide⟩

end Go.Proofs.Ytpddkhhdleknnaa

/- More plain facts on rectangles: Or, and what is in what. -/
namespace Go.Proofs.Ytpddkhhdleknnaa

theorem or_spec (r s : Rc) : (emptyR r = true ∧ emptyR s = true ∧ orR r s = zeroRc) ∨ (emptyR r = true ∧ emptyR s = false ∧ orR r s = s) ∨ (emptyR r = false ∧ emptyR s = true ∧ orR r s = r) ∨ (emptyR r = false ∧ emptyR s = false ∧ orR r s = allR r s ∧ emptyR (allR r s) = false) := by
  cases hr : emptyR r <;> cases hs : emptyR s
  · have h1 := emptyR_false.1 hr
    have h2 := emptyR_false.1 hs
    exact Or.inr (Or.inr (Or.inr ⟨rfl, rfl, by simp [orR, hr, hs], emptyR_false.2 (by simp only [allR]; omega)⟩))
  · exact Or.inr (Or.inr (Or.inl ⟨rfl, rfl, by simp [orR, hr, hs]⟩))
  · exact Or.inr (Or.inl ⟨rfl, rfl, by simp [orR, hr, hs]⟩)
  · exact Or.inl ⟨rfl, rfl, by simp [orR, hr, hs]⟩

theorem or_comm' (r s : Rc) : orR s r = orR r s := by
  rcases or_spec r s with ⟨a1, a2, e⟩ | ⟨a1, a2, e⟩ | ⟨a1, a2, e⟩ | ⟨a1, a2, e, _⟩ <;> rw [e]
  · simp [orR, a1, a2]
  · simp [orR, a1, a2]
  · simp [orR, a1, a2]
  · simp only [orR, a1, a2, Bool.false_eq_true, if_false]
    apply Rc.eq_of <;> simp only [allR] <;> omega

theorem or_fit {r s : Rc} (hr : Fit r) (hs : Fit s) : Fit (orR r s) := by
  rcases or_spec r s with ⟨a1, a2, e⟩ | ⟨a1, a2, e⟩ | ⟨a1, a2, e⟩ | ⟨a1, a2, e, h⟩ <;> rw [e]
  · exact ⟨by decide, by decide⟩
  · exact hs
  · exact hr
  · have := emptyR_false.1 h
    exact ⟨by omega, by omega⟩

theorem in_or_left (r s : Rc) : inR r (orR r s) = true := by
  rw [in_iff]
  rcases or_spec r s with ⟨a1, a2, e⟩ | ⟨a1, a2, e⟩ | ⟨a1, a2, e⟩ | ⟨a1, a2, e, h⟩
  · exact Or.inl a1
  · exact Or.inl a1
  · rw [e]; exact Or.inr ⟨a1, a1, by omega, by omega, by omega, by omega⟩
  · rw [e]; refine Or.inr ⟨a1, h, ?_⟩
    simp only [allR]; omega
theorem in_or_right (r s : Rc) : inR s (orR r s) = true := by rw [← or_comm' r s]; exact in_or_left s r

theorem in_and_left (r s : Rc) : inR (andR r s) r = true := by
  rw [in_iff]
  rcases and_spec r s with ⟨e, _⟩ | ⟨e, a1, a2, a3, a4, h⟩
  · rw [e]; exact Or.inl zero_empty
  · rw [e]; refine Or.inr ⟨h, a1, ?_⟩
    simp only [midR]; omega
theorem in_and_right (r s : Rc) : inR (andR r s) s = true := by rw [and_comm]; exact in_and_left s r

theorem in_has {r s : Rc} {x y : Int} (h : inR r s = true) (hp : hasR r x y = true) : hasR s x y = true := by
  rw [in_iff] at h
  rw [has_iff] at hp ⊢
  rcases h with h | ⟨a1, a2, a3⟩
  · rw [hp.1] at h; cases h
  · exact ⟨a2, by omega, by omega⟩

theorem empty_in {r s : Rc} (h : emptyR r = true) : inR r s = true := by rw [in_iff]; exact Or.inl h

theorem area_empty {r : Rc} (h : emptyR r = false) : (areaR r == 0) = false := by
  have := area_pos h
  simp; omega

theorem corner_has {r : Rc} (h : emptyR r = false) : hasR r r.x r.y = true ∧ hasR r (r.x + r.a - 1) (r.y + r.b - 1) = true ∧ hasR r (r.x - 1) r.y = false ∧ hasR r r.x (r.y + r.b) = false := by
  have h0 := emptyR_false.1 h
  have neg : ∀ x y, ¬ ((r.x ≤ x ∧ x < r.x + r.a) ∧ (r.y ≤ y ∧ y < r.y + r.b)) → hasR r x y = false := fun x y hn => by
    cases hh : hasR r x y
    · rfl
    · exact absurd (has_iff.1 hh).2 hn
  exact ⟨has_iff.2 ⟨h, by omega, by omega⟩, has_iff.2 ⟨h, by omega, by omega⟩, neg _ _ (by omega), neg _ _ (by omega)⟩

/-- Of all rectangles that have both, Or is the least. -/
theorem or_least {r s t : Rc} (hr : inR r t = true) (hs : inR s t = true) : inR (orR r s) t = true := by
  rw [in_iff] at *
  rcases or_spec r s with ⟨a1, a2, e⟩ | ⟨a1, a2, e⟩ | ⟨a1, a2, e⟩ | ⟨a1, a2, e, h⟩ <;> rw [e]
  · exact Or.inl zero_empty
  · exact hs
  · exact hr
  · rcases hr with hr | ⟨b1, b2, b3⟩
    · rw [a1] at hr; cases hr
    · rcases hs with hs | ⟨c1, c2, c3⟩
      · rw [a2] at hs; cases hs
      · refine Or.inr ⟨h, b2, ?_⟩
        simp only [allR]; omega

theorem or_assoc_full {r s t : Rc} (hr : emptyR r = false) (hs : emptyR s = false) (ht : emptyR t = false) : orR (orR r s) t = orR r (orR s t) := by
  have h1 := emptyR_false.1 hr
  have h2 := emptyR_false.1 hs
  have h3 := emptyR_false.1 ht
  have e1 : orR r s = allR r s := by simp [orR, hr, hs]
  have e2 : orR s t = allR s t := by simp [orR, hs, ht]
  have m1 : emptyR (allR r s) = false := emptyR_false.2 (by simp only [allR]; omega)
  have m2 : emptyR (allR s t) = false := emptyR_false.2 (by simp only [allR]; omega)
  rw [e1, e2]
  simp only [orR, hr, ht, m1, m2, Bool.false_eq_true, if_false]
  simp only [allR, add_sub_back]
  rw [Int.min_assoc, Int.min_assoc, Int.max_assoc, Int.max_assoc]

end Go.Proofs.Ytpddkhhdleknnaa
