/- Slices of rectangles held against each other, place by place: the document's Rects, and the statements' own rects. -/
import Derived.Test.YtjgbelljijhfcaaRows2
namespace Go.Proofs.Ytjgbelljijhfcaa
open Go.RowKit

def eqRs : List Rc → List Rc → Bool
  | [], [] => true
  | r :: l, s :: m => eqR r s && eqRs l m
  | _, _ => false

theorem eqRs_len {l m : List Rc} (h : l.length ≠ m.length) : eqRs l m = false := by
  induction l generalizing m with
  | nil => cases m <;> simp_all [eqRs]
  | cons r l ih =>
    cases m with
    | nil => rfl
    | cons s m => simp only [eqRs]; rw [ih (by simpa using h)]; simp
theorem eqRs_at {l m : List Rc} {k : Nat} (h1 : k < l.length) (h2 : k < m.length) : eqRs (l.drop k) (m.drop k) = (eqR l[k] m[k] && eqRs (l.drop (k + 1)) (m.drop (k + 1))) := by
  rw [List.drop_eq_getElem_cons h1, List.drop_eq_getElem_cons h2]; rfl

theorem eqRs_iff {l m : List Rc} : eqRs l m = true ↔ l = m := by
  induction l generalizing m with
  | nil => cases m <;> simp [eqRs]
  | cons r l ih =>
    cases m with
    | nil => simp [eqRs]
    | cons s m =>
      simp only [eqRs, Bool.and_eq_true, ih, List.cons.injEq]
      constructor
      · rintro ⟨h1, h2⟩; exact ⟨by cases r; cases s; simpa [eqR] using h1, h2⟩
      · rintro ⟨h1, h2⟩; exact ⟨by subst h1; simp [eqR], h2⟩

set_option maxHeartbeats 1000000 in
theorem refRects_any (v u : Value) (xs ys : List Rc) (w : World) (hv : Row encR 4 w v xs) (hu : Row encR 4 w u ys) :
    Makes Try.prog 11 #[v, u] w (.bool (eqRs xs ys)) := by
  unfold Makes
  have hn := hv.len
  have hm := hu.len
  obtain ⟨p, cap, rfl, -, -, hp⟩ := hv
  obtain ⟨q, cap2, rfl, -, -, hq⟩ := hu
  have hne := neq_rc
  by_cases hl : xs.length = ys.length
  · have hl1 : ((xs.length : Int) != (ys.length : Int)) = false := by simp [hl]
    have Hl := Lib.hid hl
    clear hl
    go_enter Try.func11, Try.ntmps11
    go_wp2
    go_loopw [5] (fun i wr => ∃ k : Nat, k ≤ xs.length ∧ i = .int .i64 k ∧ Below w.heap.size w wr ∧ Hid (eqRs xs ys = eqRs (xs.drop k) (ys.drop k))) (fun i _ => xs.length - (intOf i).toNat)
    case atStart => exact ⟨0, by omega, rfl, Below.refl _ _, Lib.hid rfl⟩
    case round =>
      obtain ⟨k, hk, rfl, hb, he⟩ := hrel
      by_cases hlt : k < xs.length
      · have hlt2 : k < ys.length := by rw [← Hl.out]; exact hlt
        obtain ⟨b, off, rfl, hB, hc⟩ := (hp.below hb).rc hlt
        obtain ⟨b2, off2, rfl, hB2, hc2⟩ := (hq.below hb).rc hlt2
        obtain ⟨a0, a1, a2, a3⟩ := hc k hlt
        obtain ⟨d0, d1, d2, d3⟩ := hc2 k hlt2
        have Hat := Lib.hid (eqRs_at hlt hlt2)
        clear hc hc2
        generalize xs[k] = r at *
        generalize ys[k] = s at *
        go_wp2
        go_quiet (fail)
        cases hr : eqR r s
        · have Hr := Lib.hid hr
          clear hr
          go_wp2
          go_ret
          exact ⟨ret_bool (by rw [he.out, Hat.out, Hr.out]; rfl), Below.drewN' hb _⟩
        · have Hr := Lib.hid hr
          clear hr
          go_wp2
          go_roundw
          case rel => exact ⟨k + 1, by omega, by go_num, Below.drewN' hb _, Lib.hid (by rw [he.out, Hat.out, Hr.out]; rfl)⟩
          case measure => simp [intOf]; omega
      · go_wp2
        go_ret
        refine ⟨ret_bool ?_, hb⟩
        rw [he.out, List.drop_eq_nil_of_le (by omega), List.drop_eq_nil_of_le (by rw [← Hl.out]; omega)]; rfl
  · have hl1 : ((xs.length : Int) != (ys.length : Int)) = true := by simp; omega
    have Hl := Lib.hid hl
    clear hl
    go_enter Try.func11, Try.ntmps11
    go_wp2
    go_ret
    exact ⟨ret_bool (eqRs_len Hl.out).symm, Below.refl _ _⟩

set_option maxHeartbeats 1000000 in
theorem lawRects_any (v u : Value) (xs ys : List Rc) (w : World) (hv : Row encR 4 w v xs) (hu : Row encR 4 w u ys) :
    Makes Try.prog 27 #[v, u] w (.bool (eqRs xs ys)) := by
  unfold Makes
  have hn := hv.len
  have hm := hu.len
  obtain ⟨p, cap, rfl, -, -, hp⟩ := hv
  obtain ⟨q, cap2, rfl, -, -, hq⟩ := hu
  have hne := neq_rc
  by_cases hl : xs.length = ys.length
  · have hl1 : ((xs.length : Int) != (ys.length : Int)) = false := by simp [hl]
    have Hl := Lib.hid hl
    clear hl
    go_enter Try.func27, Try.ntmps27
    go_wp2
    go_loopw [5] (fun i wr => ∃ k : Nat, k ≤ xs.length ∧ i = .int .i64 k ∧ Below w.heap.size w wr ∧ Hid (eqRs xs ys = eqRs (xs.drop k) (ys.drop k))) (fun i _ => xs.length - (intOf i).toNat)
    case atStart => exact ⟨0, by omega, rfl, Below.refl _ _, Lib.hid rfl⟩
    case round =>
      obtain ⟨k, hk, rfl, hb, he⟩ := hrel
      by_cases hlt : k < xs.length
      · have hlt2 : k < ys.length := by rw [← Hl.out]; exact hlt
        obtain ⟨b, off, rfl, hB, hc⟩ := (hp.below hb).rc hlt
        obtain ⟨b2, off2, rfl, hB2, hc2⟩ := (hq.below hb).rc hlt2
        obtain ⟨a0, a1, a2, a3⟩ := hc k hlt
        obtain ⟨d0, d1, d2, d3⟩ := hc2 k hlt2
        have Hat := Lib.hid (eqRs_at hlt hlt2)
        clear hc hc2
        generalize xs[k] = r at *
        generalize ys[k] = s at *
        go_wp2
        go_quiet (fail)
        cases hr : eqR r s
        · have Hr := Lib.hid hr
          clear hr
          go_wp2
          go_ret
          exact ⟨ret_bool (by rw [he.out, Hat.out, Hr.out]; rfl), Below.drewN' hb _⟩
        · have Hr := Lib.hid hr
          clear hr
          go_wp2
          go_roundw
          case rel => exact ⟨k + 1, by omega, by go_num, Below.drewN' hb _, Lib.hid (by rw [he.out, Hat.out, Hr.out]; rfl)⟩
          case measure => simp [intOf]; omega
      · go_wp2
        go_ret
        refine ⟨ret_bool ?_, hb⟩
        rw [he.out, List.drop_eq_nil_of_le (by omega), List.drop_eq_nil_of_le (by rw [← Hl.out]; omega)]; rfl
  · have hl1 : ((xs.length : Int) != (ys.length : Int)) = true := by simp; omega
    have Hl := Lib.hid hl
    clear hl
    go_enter Try.func27, Try.ntmps27
    go_wp2
    go_ret
    exact ⟨ret_bool (eqRs_len Hl.out).symm, Below.refl _ _⟩

end Go.Proofs.Ytjgbelljijhfcaa
