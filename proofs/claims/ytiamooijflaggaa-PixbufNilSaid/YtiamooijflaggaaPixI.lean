/- pixbuf's At, Same. -/
import Derived.Test.YtiamooijflaggaaPixH
namespace Go.Proofs.Ytiamooijflaggaa
open Go.RowKit

set_option maxHeartbeats 1000000 in
theorem at_in (B wd ht g x y : Nat) (L : List Int) (w : World) (h : BufAt w B wd ht g L) (hx : x < wd) (hy : y < ht) (hi : y * wd + x < L.length) :
    Makes Try.prog 47 #[.pointer (some ⟨B, 0, none⟩), .int .i64 (x : Int), .int .i64 (y : Int)] w (.tuple #[.int .u32 L[y * wd + x], .int .i64 0]) := by
  unfold Makes
  have hw := h.wd1
  have hht := h.ht1
  have hlen := h.len
  have hhas : hasR ⟨0, 0, (wd : Int), (ht : Int)⟩ x y = true := has_iff.2 ⟨emptyR_false.2 (by simp only; omega), by simp only; omega, by simp only; omega⟩
  have hf : Fit ⟨0, 0, (wd : Int), (ht : Int)⟩ := ⟨show (0 : Int) ≤ 9223372036854775807 by decide, show (0 : Int) ≤ 9223372036854775807 by decide⟩
  obtain ⟨q, hq⟩ : ∃ q, y * wd = q := ⟨_, rfl⟩
  obtain ⟨i, hii⟩ : ∃ i, q + x = i := ⟨_, rfl⟩
  obtain ⟨V, hV⟩ : ∃ V, L[y * wd + x] = V := ⟨_, rfl⟩
  have hcell : w.cell? ⟨g, i, none⟩ = some (.int .u32 V) := by
    have := h.pix.cell hi
    rw [hV] at this
    rw [← hii, ← hq]; exact this
  have hil : i < L.length := by rw [← hii, ← hq]; exact hi
  have z1 : IntKind.i64.wrap ((y : Int) * (wd : Int)) = (q : Int) := by rw [← Int.natCast_mul, hq]; exact IntWalk.i64_in _ (by omega)
  have z2 : IntKind.i64.wrap ((q : Int) + (x : Int)) = (i : Int) := by rw [← Int.natCast_add, hii]; exact IntWalk.i64_in _ (by omega)
  rw [hV]
  obtain ⟨c0, c1, c2⟩ := h.three
  have Hh := Lib.hid h
  have Hhas := Lib.hid hhas
  clear h hhas hq hii hV hi
  go_enter Try.func47, Try.ntmps47
  go_wp2_with fail
  refine Calls.mono (whole_any _ _ _ _) ?_
  rintro e w1 ⟨rfl, hb1⟩
  go_wp2_with fail
  refine Calls.mono (has_eq _ x y _ Hhas.out hf) ?_
  rintro e w2 ⟨rfl, hb2⟩
  have hb := Below.thn hb1 hb2
  have d0 := cell_later hb c0
  have d1 := cell_later hb c1
  have d2 := cell_later hb c2
  have d3 := cell_later hb hcell
  have Hb := Lib.hid hb
  clear c0 c1 c2 hcell hb1 hb2 hb
  go_wp2
  go_quiet (fail)
  go_wp2
  go_ret2
  exact ⟨rfl, Below.drewN' Hb.out _⟩

/-- Two rows of numbers held against each other. -/
def eqL : List Int → List Int → Bool
  | [], [] => true
  | a :: l, b :: m => a == b && eqL l m
  | _, _ => false
theorem eqL_iff {l m : List Int} : eqL l m = true ↔ l = m := by
  induction l generalizing m with
  | nil => cases m <;> simp [eqL]
  | cons a l ih =>
    cases m with
    | nil => simp [eqL]
    | cons b m => simp [eqL, ih]
theorem eqL_at {l m : List Int} {k : Nat} (h1 : k < l.length) (h2 : k < m.length) : eqL (l.drop k) (m.drop k) = (l[k] == m[k] && eqL (l.drop (k + 1)) (m.drop (k + 1))) := by
  rw [List.drop_eq_getElem_cons h1, List.drop_eq_getElem_cons h2]; rfl

set_option maxHeartbeats 1000000 in
theorem equal_any (g g' : Nat) (L M : List Int) (w : World) (hL : Pix w g L) (hM : Pix w g' M) (hl : L.length = M.length) (hm : L.length ≤ 1048576) :
    Makes Try.prog 99 #[.slice (some ⟨g, 0, none⟩) L.length L.length, .slice (some ⟨g', 0, none⟩) M.length M.length] w (.bool (eqL L M)) := by
  unfold Makes
  have hne : ((L.length : Int) != (M.length : Int)) = false := by simp [hl]
  have Hl := Lib.hid hl
  clear hl
  go_enter Try.func99, Try.ntmps99
  go_wp2
  go_loopw [13] (fun i wr => ∃ k : Nat, k ≤ L.length ∧ i = .int .i64 k ∧ Below w.heap.size w wr ∧ Hid (eqL L M = eqL (L.drop k) (M.drop k))) (fun i _ => L.length - (intOf i).toNat)
  case atStart => exact ⟨0, by omega, rfl, Below.refl _ _, Lib.hid rfl⟩
  case round =>
    obtain ⟨k, hk, rfl, hb, he⟩ := hrel
    by_cases hlt : k < L.length
    · have hlt2 : k < M.length := by rw [← Hl.out]; exact hlt
      have c0 := (hL.later hb).cell hlt
      have c1 := (hM.later hb).cell hlt2
      have Hat := Lib.hid (eqL_at hlt hlt2)
      generalize L[k] = a at *
      generalize M[k] = b at *
      go_wp2
      by_cases hab : a = b
      · have hab' : ((a : Int) != b) = false := by simp [hab]
        have Hn := Lib.hid (show eqL L M = eqL (L.drop (k + 1)) (M.drop (k + 1)) by rw [he.out, Hat.out]; simp [hab])
        clear hab
        go_quiet (fail)
        go_wp2
        go_roundw
        case rel => exact ⟨k + 1, by omega, by go_num, Below.drewN' hb _, Hn⟩
        case measure => simp [intOf]; omega
      · have hab' : ((a : Int) != b) = true := by simpa using hab
        have Hn := Lib.hid (show eqL L M = false by rw [he.out, Hat.out]; simp [hab])
        clear hab
        go_quiet (fail)
        go_wp2
        go_ret
        exact ⟨ret_bool Hn.out.symm, Below.drewN' hb _⟩
    · have Hn := Lib.hid (show eqL L M = true by
        rw [he.out, List.drop_eq_nil_of_le (by omega), List.drop_eq_nil_of_le (by have := Hl.out; omega)]; rfl)
      go_wp2
      go_ret
      exact ⟨ret_bool Hn.out.symm, hb⟩

set_option maxHeartbeats 1000000 in
theorem sized_like (B wd ht g B' wd' ht' g' : Nat) (L M : List Int) (w : World) (h : BufAt w B wd ht g L) (h' : BufAt w B' wd' ht' g' M) :
    Makes Try.prog 95 #[.pointer (some ⟨B, 0, none⟩), .pointer (some ⟨B', 0, none⟩)] w (.bool (eqR ⟨0, 0, (wd : Int), (ht : Int)⟩ ⟨0, 0, (wd' : Int), (ht' : Int)⟩)) := by
  unfold Makes
  have heq := eql_rc
  have hne := After.ne w
  have k0 := After.rule h.three.1
  have k1 := After.rule h.three.2.1
  have k2 := After.rule h.three.2.2
  have j0 := After.rule h'.three.1
  have j1 := After.rule h'.three.2.1
  have j2 := After.rule h'.three.2.2
  clear h h'
  go_enter Try.func95, Try.ntmps95
  go_upto_region 1 with (fail)
  refine wp_region_after (by kernel_rfl) (by kernel_rfl) ?_
  repeat (go_big_quiet_step ((go_at_call 84; exact Makes.after (whole_any _ _ _ _))))
  refine wpQuiet_nil ?_
  rintro _ ⟨nq, rfl⟩
  have Hn := Lib.hid nq.below
  go_wp2
  go_ret
  exact ⟨rfl, Hn.out⟩

end Go.Proofs.Ytiamooijflaggaa
