/- region's isBand and follows; the statements' own same. -/
import Derived.Test.YtjgbelljijhfcaaContains
import Derived.Test.YtjgbelljijhfcaaGoesOn
namespace Go.Proofs.Ytjgbelljijhfcaa
open Go.RowKit

theorem isBandB_iff {xs : List Rc} : isBandB xs = true ↔ ∀ j (h : j + 1 < xs.length), xs[j + 1].b = xs[0].b ∧ xs[j].x + xs[j].a < xs[j + 1].x := by
  cases xs with
  | nil => simp [isBandB]
  | cons r l =>
    simp only [isBandB, Bool.and_eq_true, List.all_eq_true, decide_eq_true_eq, beq_iff_eq]
    constructor
    · rintro ⟨h1, h2⟩ j hj
      refine ⟨by simpa using h1 _ (List.getElem_mem hj), ?_⟩
      have hj' : j < l.length := by simpa using hj
      have hz : j < ((r :: l).zip l).length := by simp; omega
      have := h2 _ (List.getElem_mem hz)
      rw [List.getElem_zip] at this
      simpa using this
    · intro h
      refine ⟨fun s hs => ?_, fun p hp => ?_⟩
      · obtain ⟨i, hi, rfl⟩ := List.getElem_of_mem hs
        cases i with
        | zero => rfl
        | succ i => simpa using (h i hi).1
      · obtain ⟨i, hi, rfl⟩ := List.getElem_of_mem hp
        rw [List.getElem_zip]
        have hi' : i < l.length := by simp at hi; omega
        exact (h i (by simpa using hi')).2

set_option maxRecDepth 100000 in
set_option maxHeartbeats 2000000 in
theorem isBand_any (v : Value) (xs : List Rc) (w : World) (hv : Row encR 4 w v xs) (hbd : ∀ r ∈ xs, (-4294967296 ≤ r.x ∧ r.x ≤ 4294967296) ∧ (-4294967296 ≤ r.a ∧ r.a ≤ 4294967296)) :
    Makes Try.prog 42 #[v] w (.bool (isBandB xs)) := by
  unfold Makes
  have hn := hv.len
  obtain ⟨p, cap, rfl, -, -, hp⟩ := hv
  have Hbd := Lib.hid hbd
  clear hbd
  go_enter Try.func42, Try.ntmps42
  go_wp2
  go_loopw [3] (fun i wr => ∃ (i' : Int) (j : Nat), i = .int .i64 i' ∧ i' = (j : Int) + 1 ∧ j ≤ xs.length ∧ Below w.heap.size w wr ∧ Hid (∀ q (h : q + 1 < xs.length), q < j → xs[q + 1].b = xs[0].b ∧ xs[q].x + xs[q].a < xs[q + 1].x)) (fun i _ => xs.length + 1 - (intOf i).toNat)
  case atStart => exact ⟨1, 0, rfl, rfl, by omega, Below.refl _ _, Lib.hid (fun q h h' => by omega)⟩
  case round =>
    obtain ⟨i', j, rfl, hij, hjl, hb, He⟩ := hrel
    by_cases hlt : j + 1 < xs.length
    · have hd1 : decide (i' < (xs.length : Int)) = true := by simp; omega
      obtain ⟨b, off, rfl, hB, hc⟩ := (hp.below hb).rc hlt
      obtain ⟨a0, a1, a2, a3⟩ := hc (j + 1) hlt
      obtain ⟨b0, b1, b2, b3⟩ := hc j (by omega)
      have hc0 := hc 0 (by omega)
      simp only [Nat.zero_mul, Nat.add_zero] at hc0
      obtain ⟨c0, c1, c2, c3⟩ := hc0
      have e1 := Hbd.out xs[j] (List.getElem_mem (by omega))
      have Hok := Lib.hid (show ∀ (h : j + 1 < xs.length), (xs[j + 1].b = xs[0].b ∧ xs[j].x + xs[j].a < xs[j + 1].x) ↔ (xs[j + 1].b = xs[0].b ∧ xs[j].x + xs[j].a < xs[j + 1].x) from fun _ => Iff.rfl)
      have Hno := Lib.hid (show ¬ (xs[j + 1].b = xs[0].b ∧ xs[j].x + xs[j].a < xs[j + 1].x) → isBandB xs = false from fun h => by
        cases hh : isBandB xs
        · rfl
        · exact absurd (isBandB_iff.1 hh j hlt) h)
      have Hyes := Lib.hid (show (xs[j + 1].b = xs[0].b ∧ xs[j].x + xs[j].a < xs[j + 1].x) → ∀ q (h : q + 1 < xs.length), q < j + 1 → xs[q + 1].b = xs[0].b ∧ xs[q].x + xs[q].a < xs[q + 1].x from fun h q hq hq2 => by
        by_cases hqj : q = j
        · subst hqj; exact h
        · exact He.out q hq (by omega))
      clear hc Hok
      generalize xs[j + 1] = rk at *
      generalize xs[j] = rj at *
      generalize xs[0] = r0 at *
      have hi0 : (0 : Int) ≤ i' := by omega
      have hi1 : i'.toNat = j + 1 := by omega
      have hw1 : IntKind.i64.wrap (i' - 1) = i' - 1 := IntWalk.i64_in _ (by omega)
      have hj0 : (0 : Int) ≤ i' - 1 := by omega
      have hj1 : (i' - 1).toNat = j := by omega
      have hj2 : j < xs.length := by omega
      have h0l : 0 < xs.length := by omega
      have hw2 : IntKind.i64.wrap (rj.x + rj.a) = rj.x + rj.a := IntWalk.i64_in _ (by omega)
      by_cases hh : rk.b = r0.b
      · have hh' : ((rk.b : Int) != r0.b) = false := by simp [hh]
        by_cases hx : rj.x + rj.a < rk.x
        · have hx' : decide (rk.x ≤ rj.x + rj.a) = false := by simp; omega
          have HY := Lib.hid (Hyes.out ⟨hh, hx⟩)
          clear hh hx Hno Hyes e1
          go_wp2
          go_quiet (fail)
          go_wp2
          go_roundw
          case rel => exact ⟨i' + 1, j + 1, by go_num, by omega, by omega, Below.drewN' hb _, HY⟩
          case measure => simp [intOf]; omega
        · have hx' : decide (rk.x ≤ rj.x + rj.a) = true := by simp; omega
          have HN := Lib.hid (Hno.out (fun h => hx h.2))
          clear hh hx Hno Hyes e1
          go_wp2
          go_quiet (fail)
          go_wp2
          go_ret
          exact ⟨ret_bool HN.out.symm, Below.drewN' hb _⟩
      · have hh' : ((rk.b : Int) != r0.b) = true := by simp [hh]
        have HN := Lib.hid (Hno.out (fun h => hh h.1))
        clear hh Hno Hyes e1
        go_wp2
        go_quiet (fail)
        go_wp2
        go_ret
        exact ⟨ret_bool HN.out.symm, Below.drewN' hb _⟩
    · have hd1 : decide (i' < (xs.length : Int)) = false := by simp; omega
      have HT := Lib.hid (show isBandB xs = true from isBandB_iff.2 (fun q hq => He.out q hq (by omega)))
      go_wp2
      go_ret
      exact ⟨ret_bool HT.out.symm, hb⟩

theorem followsB_cons {a b : List Rc} (ha : 0 < a.length) (hb : 0 < b.length) : followsB a b = (decide (a[0].y + a[0].b ≤ b[0].y) && !goesOnB a b) := by
  cases a with
  | nil => simp at ha
  | cons r l =>
    cases b with
    | nil => simp at hb
    | cons s m => rfl

set_option maxRecDepth 100000 in
set_option maxHeartbeats 2000000 in
theorem follows_any (va vb : Value) (a b : List Rc) (w : World) (ha : Row encR 4 w va a) (hb : Row encR 4 w vb b) (hlb0 : 0 < b.length) (hbd : ∀ r ∈ a, (-4294967296 ≤ r.y ∧ r.y ≤ 4294967296) ∧ (-4294967296 ≤ r.b ∧ r.b ≤ 4294967296)) :
    Makes Try.prog 43 #[va, vb] w (.bool (followsB a b)) := by
  unfold Makes
  have hla := ha.len
  have hlb := hb.len
  have Ha := Lib.hid ha
  have Hb := Lib.hid hb
  have Hbd := Lib.hid hbd
  obtain ⟨pa, ca, rfl, hca, hma, hpa⟩ := ha
  obtain ⟨pb, cb, rfl, hcb, hmb, hpb⟩ := hb
  by_cases h00 : a.length = 0
  · have h0 : ((a.length : Int) == 0) = true := by simp [h00]
    have Hf := Lib.hid (show followsB a b = true by rw [List.eq_nil_of_length_eq_zero h00]; rfl)
    clear h00 hbd hpa
    go_enter Try.func43, Try.ntmps43
    go_wp2
    go_ret
    exact ⟨ret_bool Hf.out.symm, Below.refl _ _⟩
  · have hz : ((a.length : Int) == 0) = false := by simpa using h00
    have hla0 : 0 < a.length := by omega
    clear h00
    obtain ⟨ba, oa, rfl, hBa, hc⟩ := hpa.rc hla0
    obtain ⟨bb, ob, rfl, hBb, hd⟩ := hpb.rc hlb0
    have hc0 := hc 0 hla0
    have hd0 := hd 0 hlb0
    have hb0 := hbd a[0] (List.getElem_mem hla0)
    have Hge := Lib.hid (followsB_cons hla0 hlb0)
    simp only [Nat.zero_mul, Nat.add_zero] at hc0 hd0
    generalize a[0] = r at *
    generalize b[0] = s at *
    obtain ⟨c0, c1, c2, c3⟩ := hc0
    obtain ⟨d0, d1, d2, d3⟩ := hd0
    have hw : IntKind.i64.wrap (r.y + r.b) = r.y + r.b := IntWalk.i64_in _ (by omega)
    clear hbd hc hd hpa hpb
    by_cases hy : r.y + r.b ≤ s.y
    · have hy' : decide (r.y + r.b ≤ s.y) = true := by simpa using hy
      have Hy := Lib.hid hy'
      clear hy hb0
      go_enter Try.func43, Try.ntmps43
      go_wp2
      go_quiet (fail)
      go_wp2_with fail
      refine Calls.mono (goesOn_any _ _ a b _ (Ha.out.below (Below.drewN' (Below.refl _ _) _)) (Hb.out.below (Below.drewN' (Below.refl _ _) _)) Hbd.out) ?_
      rintro e w1 ⟨rfl, hb1⟩
      go_wp2
      go_ret
      exact ⟨ret_bool (by rw [Hge.out, Hy.out]; rfl), Below.thn (Below.drewN' (Below.refl _ _) _) hb1⟩
    · have hy' : decide (r.y + r.b ≤ s.y) = false := by simpa using hy
      have Hy := Lib.hid hy'
      clear hy hb0
      go_enter Try.func43, Try.ntmps43
      go_wp2
      go_quiet (fail)
      go_wp2
      go_ret
      exact ⟨ret_bool (by rw [Hge.out, Hy.out]; rfl), Below.drewN' (Below.refl _ _) _⟩

end Go.Proofs.Ytjgbelljijhfcaa
