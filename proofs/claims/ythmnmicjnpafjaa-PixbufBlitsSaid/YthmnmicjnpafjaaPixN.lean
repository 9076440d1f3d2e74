/- Plain facts on parts of pictures, and on parts laid back: nothing here walks. -/
import Derived.Test.YthmnmicjnpafjaaPixH
namespace Go.Proofs.Ythmnmicjnpafjaa
open Go.RowKit

theorem fit_of {fw px py aw ah n : Nat} (h1 : px + aw ≤ fw) {fh : Nat} (h2 : py + ah ≤ fh) (hn : fw * fh = n) : ∀ k, k < ah → (py + k) * fw + px + aw ≤ n := fun k hk => by
  rw [← hn]
  have : (py + k + 1) * fw ≤ fh * fw := Nat.mul_le_mul_right fw (by omega)
  rw [Nat.add_mul (py + k), Nat.one_mul, Nat.mul_comm fh fw] at this
  omega

/-- Two lists of pixels of one size, alike pixel by pixel. -/
theorem pix_ext {wd ht : Nat} {A B : List Int} (hA : A.length = wd * ht) (hB : B.length = wd * ht) (h : ∀ x y, x < wd → y < ht → A[y * wd + x]? = B[y * wd + x]?) : A = B := by
  refine List.ext_getElem? fun i => ?_
  by_cases hi : i < wd * ht
  · have hw : 0 < wd := by
      rcases Nat.eq_zero_or_pos wd with e | e
      · subst e; simp at hi
      · exact e
    have hy : i / wd < ht := by rw [Nat.div_lt_iff_lt_mul hw, Nat.mul_comm]; exact hi
    have hx : i % wd < wd := Nat.mod_lt _ hw
    have e : i / wd * wd + i % wd = i := by rw [Nat.mul_comm]; exact Nat.div_add_mod i wd
    have := h _ _ hx hy
    rw [e] at this
    exact this
  · rw [List.getElem?_eq_none (by omega), List.getElem?_eq_none (by omega)]

theorem U24.get {L : List Int} (h : U24 L) {i : Nat} (hi : i < L.length) : L[i]?.map cut24 = L[i]? := by
  rw [List.getElem?_eq_getElem hi, Option.map_some, cut24_same (h _ (List.getElem_mem hi))]

theorem place_lt {wd ht x y : Nat} (hx : x < wd) (hy : y < ht) : y * wd + x < wd * ht := by
  have : (y + 1) * wd ≤ ht * wd := Nat.mul_le_mul_right wd (by omega)
  rw [Nat.add_mul, Nat.one_mul, Nat.mul_comm ht wd] at this
  omega

/-- The part of a part is the part. -/
theorem cutL_cutL {wd ht px py aw ah qx qy qa qb : Nat} {L : List Int} (hu : U24 L) (hl : wd * ht = L.length) (h1 : px + aw ≤ wd) (h2 : py + ah ≤ ht) (h3 : qx + qa ≤ aw) (h4 : qy + qb ≤ ah) :
    cutL aw qx qy qa qb (cutL wd px py aw ah L) = cutL wd (qx + px) (qy + py) qa qb L := by
  have f1 := fit_of h1 h2 hl
  obtain ⟨c1, c2⟩ := cutL_ok hu.u32 f1
  have f2 := fit_of h3 h4 c1.symm
  have f3 := fit_of (px := qx + px) (py := qy + py) (aw := qa) (ah := qb) (by omega) (by omega) hl
  obtain ⟨d1, -⟩ := cutL_ok c2.u32 f2
  obtain ⟨e1, -⟩ := cutL_ok hu.u32 f3
  refine pix_ext d1 e1 fun x y hx hy => ?_
  rw [cutL_get c2.u32 f2 hx hy, cutL_get hu.u32 f3 hx hy, show (qy + y) * aw + qx + x = (qy + y) * aw + (qx + x) by omega, cutL_get hu.u32 f1 (by omega) (by omega)]
  rw [show (py + (qy + y)) * wd + px + (qx + x) = (qy + py + y) * wd + (qx + px) + x by
    rw [show py + (qy + y) = qy + py + y by omega]; omega]
  rw [Option.map_map]
  congr 1
  funext v
  simp [cut24]

/-- A part that is laid where it was leaves the picture. -/
theorem layL_back {wd ht px py aw ah : Nat} {L : List Int} (hu : U24 L) (hl : wd * ht = L.length) (h1 : px + aw ≤ wd) (h2 : py + ah ≤ ht) :
    layL wd px py aw aw 0 0 (cutL wd px py aw ah L) L ah = L := by
  have f1 := fit_of h1 h2 hl
  obtain ⟨c1, c2⟩ := cutL_ok hu.u32 f1
  have f2 := fit_of (fw := aw) (px := 0) (py := 0) (aw := aw) (ah := ah) (by omega) (show 0 + ah ≤ ah by omega) c1.symm
  have hf : ∀ k, k < ah → (py + k) * wd + px + aw ≤ L.length ∧ (0 + k) * aw + 0 + aw ≤ (cutL wd px py aw ah L).length := fun k hk => ⟨f1 k hk, f2 k hk⟩
  refine pix_ext (wd := wd) (ht := ht) (by rw [layL_len0 c2.u32 hu.u32 hf, hl]) hl.symm fun x y hx hy => ?_
  rw [layL_get wd px py aw aw 0 0 _ _ c2.u32 hu.u32 h1 hx ah hf]
  by_cases h : (px ≤ x ∧ x < px + aw) ∧ (py ≤ y ∧ y < py + ah)
  · rw [if_pos h, show (0 + (y - py)) * aw + 0 + (x - px) = (y - py) * aw + (x - px) by simp, cutL_get hu.u32 f1 (by omega) (by omega)]
    rw [show (py + (y - py)) * wd + px + (x - px) = y * wd + x by rw [show py + (y - py) = y by omega]; omega]
    have hi : y * wd + x < L.length := by rw [← hl]; exact place_lt hx hy
    rw [hu.get hi, hu.get hi]
  · rw [if_neg h]

theorem shiftR_yes {r : Rc} {dx dy : Int} (hg : goodR r = true) (hx : -1048576 - r.x ≤ dx ∧ dx ≤ 1048576 - (r.x + r.a)) (hy : -1048576 - r.y ≤ dy ∧ dy ≤ 1048576 - (r.y + r.b)) : shiftR r dx dy = ⟨r.x + dx, r.y + dy, r.a, r.b⟩ := by
  unfold shiftR
  rw [if_pos (by rw [hg]; simp only [wayShift, decide_eq_true hx, decide_eq_true hy, Bool.and_self])]

/-- The rectangles of a part that is laid back. -/
theorem shift_to {px py aw ah : Nat} (h1 : px + aw ≤ 256) (h2 : py + ah ≤ 256) : shiftR ⟨0, 0, (aw : Int), (ah : Int)⟩ (px : Int) (py : Int) = ⟨(px : Int), (py : Int), (aw : Int), (ah : Int)⟩ := by
  rw [shiftR_yes (goodR_iff.2 (by simp only; omega)) (by simp only; omega) (by simp only; omega)]
  simp
theorem neg_wrap {n : Nat} (h : n ≤ 1048576) : IntKind.i64.wrap (-(n : Int)) = -(n : Int) := IntWalk.i64_in _ (by omega)
theorem shift_back {px py aw ah : Nat} (h1 : px + aw ≤ 256) (h2 : py + ah ≤ 256) : shiftR ⟨(px : Int), (py : Int), (aw : Int), (ah : Int)⟩ (IntKind.i64.wrap (-(px : Int))) (IntKind.i64.wrap (-(py : Int))) = ⟨((0 : Nat) : Int), ((0 : Nat) : Int), (aw : Int), (ah : Int)⟩ := by
  rw [neg_wrap (by omega), neg_wrap (by omega), shiftR_yes (goodR_iff.2 (by simp only; omega)) (by simp only; omega) (by simp only; omega)]
  refine Rc.eq_of ?_ ?_ rfl rfl <;> (simp only; omega)
theorem and_in {r s : Rc} (h : inR r s = true) (he : emptyR r = false) : andR r s = r := by
  unfold inR at h
  rw [he, Bool.false_or] at h
  exact eqR_iff.1 h
theorem shift_more {qx qy qa qb px py : Nat} (h0 : qx + qa ≤ 256) (h1 : qy + qb ≤ 256) (h2 : px ≤ 256) (h3 : py ≤ 256) : shiftR ⟨(qx : Int), (qy : Int), (qa : Int), (qb : Int)⟩ (px : Int) (py : Int) = ⟨((qx + px : Nat) : Int), ((qy + py : Nat) : Int), (qa : Int), (qb : Int)⟩ := by
  rw [shiftR_yes (goodR_iff.2 (by simp only; omega)) (by simp only; omega) (by simp only; omega)]
  refine Rc.eq_of ?_ ?_ rfl rfl <;> (simp only; omega)

theorem Turns.stays {w w' : World} {g B wd ht h : Nat} {M : List Int} (ht' : Turns (fun b => b = g) w w') (hB : BufAt w B wd ht h M) (h1 : B ≠ g) (h2 : h ≠ g) : BufAt w' B wd ht h M :=
  hB.same (ht'.block B hB.lt h1) (ht'.block h hB.pix.lt h2)

theorem pict_open {wd ht : Int} {p : Option Addr} {S : List Int} {W : World} (h : pictB wd ht S.length = true) (hr : RowAt encU 1 W p S) :
    ∃ (a b fb fo : Nat), wd = a ∧ ht = b ∧ (1 ≤ a ∧ a ≤ 256) ∧ (1 ≤ b ∧ b ≤ 256) ∧ a * b = S.length ∧ p = some ⟨fb, fo, none⟩ := by
  unfold pictB at h
  rw [Bool.and_eq_true, sizedB_iff] at h
  obtain ⟨⟨h1, h2⟩, h3⟩ := h
  have h3' : (S.length : Int) = wd * ht := of_decide_eq_true h3
  obtain ⟨a, rfl⟩ := Int.eq_ofNat_of_zero_le (show 0 ≤ wd by omega)
  obtain ⟨b, rfl⟩ := Int.eq_ofNat_of_zero_le (show 0 ≤ ht by omega)
  have h4 : a * b = S.length := by
    have : ((a * b : Nat) : Int) = (S.length : Int) := by rw [Int.natCast_mul]; exact h3'.symm
    omega
  rcases hr with ⟨-, rfl⟩ | ⟨fb, fo, rfl, -, -⟩
  · exfalso
    have := Nat.mul_pos (show 0 < a by omega) (show 0 < b by omega)
    simp only [List.length_nil] at h4
    omega
  · exact ⟨a, b, fb, fo, rfl, rfl, by omega, by omega, h4, rfl⟩

theorem shift_fit' (r : Rc) (dx dy : Int) : Fit (shiftR r dx dy) := by
  unfold shiftR
  split
  · rename_i h
    simp only [Bool.and_eq_true, wayShift, decide_eq_true_eq] at h
    have := goodR_iff.1 h.1
    exact ⟨by simp only; omega, by simp only; omega⟩
  · exact ⟨by decide, by decide⟩

end Go.Proofs.Ythmnmicjnpafjaa
