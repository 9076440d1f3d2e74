/- Several texts in one, each with its own head. -/
import Derived.Test.YtpdfkgdgpofhbaaM835
import Derived.Test.YtpdfkgdgpofhbaaM839
import Derived.Test.YtpdfkgdgpofhbaaM84
/- The document's All of lengths that make no code. -/
namespace Go.Proofs.Ytpdfkgdgpofhbaa
open Go.RowKit

theorem refAll_bad (ls : List Nat) (v : Value) (w : World) (hv : Row enc8 1 w v ls) (hc : chk ls ≠ 0) :
    Calls Try.prog 12 #[v] w fun e w' => e = .returned (.tuple #[.slice none 0 0, .int .i64 (chk ls)]) ∧ w' = w := by
  have Hv := Lib.hid hv
  obtain ⟨r, hr⟩ : ∃ r, chk ls = r := ⟨_, rfl⟩
  have Hr := Lib.hid hr
  rw [hr] at hc ⊢
  have e0 : (r != 0) = true := by simpa using hc
  clear hr hv
  go_enter Try.func12, Try.ntmps12
  go_wp2_with fail
  refine Calls.mono (refWrong_any ls v w Hv.out) ?_
  rintro e w1 ⟨rfl, rfl⟩
  rw [Hr.out]
  go_wp2
  go_ret2
  exact ⟨rfl, rfl⟩

theorem refCodes_bad (ls : List Nat) (v : Value) (w : World) (hv : Row enc8 1 w v ls) (hc : chk ls ≠ 0) :
    Calls Try.prog 9 #[v] w fun e w' => e = .returned (.tuple #[.slice none 0 0, .int .i64 (chk ls)]) ∧ w' = w := by
  have Hv := Lib.hid hv
  have Hc := Lib.hid hc
  obtain ⟨r, hr⟩ : ∃ r, chk ls = r := ⟨_, rfl⟩
  have Hr := Lib.hid hr
  rw [hr] at hc ⊢
  have e0 : (r != 0) = true := by simpa using hc
  clear hr hv
  go_enter Try.func9, Try.ntmps9
  go_wp2_with fail
  refine Calls.mono (refAll_bad ls v w Hv.out Hc.out) ?_
  rintro e w1 ⟨rfl, rfl⟩
  rw [Hr.out]
  go_wp2
  go_ret2
  exact ⟨rfl, rfl⟩

end Go.Proofs.Ytpdfkgdgpofhbaa

/- The document's begins. -/
namespace Go.Proofs.Ytpdfkgdgpofhbaa
open Go.RowKit

/-- Does a row begin with another one? -/
def pre (a b : List Bool) : Bool := decide (b.length ≤ a.length ∧ a.take b.length = b)

theorem take_step {a b : List Bool} {i : Nat} (ha : i < a.length) (hb : i < b.length) : a.take (i + 1) = b.take (i + 1) ↔ a.take i = b.take i ∧ a[i] = b[i] := by
  rw [List.take_succ_eq_append_getElem ha, List.take_succ_eq_append_getElem hb]
  constructor
  · intro h
    have h1 := List.append_inj' h rfl
    exact ⟨h1.1, by simpa using h1.2⟩
  · rintro ⟨h1, h2⟩
    rw [h1, h2]

set_option maxHeartbeats 2000000 in
theorem begins_any (pa pb : Option Addr) (na nb ca cb : Nat) (la lb : List Bool) (w : World) (hla : na = la.length) (hlb : nb = lb.length) (hs : nb ≤ 1000000) (ha : BitsAt w pa la) (hb : BitsAt w pb lb) :
    Makes Try.prog 33 #[.slice pa na ca, .slice pb nb cb] w (.bool (pre la lb)) := by
  unfold Makes
  have Ha := Lib.hid ha
  have Hb := Lib.hid hb
  have Hla := Lib.hid hla
  have Hlb := Lib.hid hlb
  obtain ⟨r, hr⟩ : ∃ r, pre la lb = r := ⟨_, rfl⟩
  rw [hr]
  have Hr := Lib.hid hr
  clear ha hb hr hla hlb
  by_cases hlt : na < nb
  · have d0 : decide (na < nb) = true := by simpa using hlt
    obtain rfl : r = false := by
      rw [← Hr.out]; unfold pre
      simp only [decide_eq_false_iff_not]
      rintro ⟨h, -⟩
      rw [← Hla.out, ← Hlb.out] at h
      omega
    go_enter Try.func33, Try.ntmps33
    go_wp2
    go_ret
    exact ⟨rfl, Below.refl _ _⟩
  · have d0 : decide (na < nb) = false := by simpa using hlt
    go_enter Try.func33, Try.ntmps33
    go_wp2
    go_loopw [5] (fun iv wr => ∃ i : Nat, iv = .int .i64 (i : Int) ∧ i ≤ nb ∧ Hid (la.take i = lb.take i) ∧ Hid (Below w.heap.size w wr)) (fun iv _ => nb - (intOf iv).toNat)
    case atStart => exact ⟨0, rfl, Nat.zero_le _, Lib.hid rfl, Lib.hid (Below.refl _ _)⟩
    case round =>
      obtain ⟨i, rfl, hi, HI, HB⟩ := hrel
      by_cases hin : i < nb
      · have d1 : decide (i < nb) = true := by simpa using hin
        have hia : i < la.length := by rw [← Hla.out]; omega
        have hib : i < lb.length := by rw [← Hlb.out]; omega
        obtain ⟨ga, oa, rfl, hca⟩ := Ha.out i hia
        obtain ⟨gb, ob, rfl, hcb⟩ := Hb.out i hib
        have c0 := cell_later HB.out hca
        have c1 := cell_later HB.out hcb
        have Hts := Lib.hid (take_step hia hib)
        generalize la[i] = x at *
        generalize lb[i] = y at *
        have i0 : (0 : Int) ≤ (i : Int) := by omega
        have i1 : (i : Int) < (na : Int) := by omega
        have i2 : (i : Int) < (nb : Int) := by omega
        clear hca hcb hia hib
        go_upto_region 6 with (fail)
        go_quiet (fail)
        rename_i nq
        have hd : Below wr.heap.size wr (wr.drewN nq) := Below.drewN' (Below.refl _ _) nq
        have HB2 := Lib.hid (Below.thn HB.out hd)
        generalize wr.drewN nq = W2 at *
        clear hd c0 c1
        cases x <;> cases y
        · go_wp2
          go_roundw
          case rel => exact ⟨i + 1, by go_num, by omega, Lib.hid (Hts.out.2 ⟨HI.out, rfl⟩), HB2⟩
          case measure => simp [intOf]; omega
        · obtain rfl : r = false := by
            rw [← Hr.out]; unfold pre
            simp only [decide_eq_false_iff_not]
            rintro ⟨h, h2⟩
            have h3 := congrArg (List.take (i + 1)) h2
            rw [List.take_take, Nat.min_eq_left (by rw [← Hlb.out]; omega)] at h3
            have := (Hts.out.1 h3).2
            cases this
          go_wp2
          go_ret
          exact ⟨rfl, HB2.out⟩
        · obtain rfl : r = false := by
            rw [← Hr.out]; unfold pre
            simp only [decide_eq_false_iff_not]
            rintro ⟨h, h2⟩
            have h3 := congrArg (List.take (i + 1)) h2
            rw [List.take_take, Nat.min_eq_left (by rw [← Hlb.out]; omega)] at h3
            have := (Hts.out.1 h3).2
            cases this
          go_wp2
          go_ret
          exact ⟨rfl, HB2.out⟩
        · go_wp2
          go_roundw
          case rel => exact ⟨i + 1, by go_num, by omega, Lib.hid (Hts.out.2 ⟨HI.out, rfl⟩), HB2⟩
          case measure => simp [intOf]; omega
      · obtain rfl : i = nb := by omega
        have d1 : decide (i < i) = false := by simp
        obtain rfl : r = true := by
          rw [← Hr.out]; unfold pre
          simp only [decide_eq_true_iff]
          have h1 := HI.out
          have h2 := Hlb.out
          have h3 := Hla.out
          refine ⟨by omega, ?_⟩
          rw [← h2, h1, h2, List.take_length]
        go_wp2
        go_ret
        exact ⟨rfl, HB.out⟩

theorem slice_row (p : Option Addr) (n c a t : Nat) (z : Int) (hz : (a : Int) + (t : Int) = z) (h : a + t ≤ c) (w : World) : (Instr.slice 39 (.slice p n c) (some (.int .i64 (a : Int))) (some (.int .i64 z)) none).run Try.prog w = .ok (.slice (if c = a then p else p.map fun x => x.add a) t (c - a)) w := by
  subst hz
  obtain ⟨i, hi, hz, hs, hb⟩ := info_parts bool_info
  rw [run_slice_lh w 39 p n c (by kernel_rfl) .i64 .i64 (a : Int) ((a : Int) + (t : Int)) (by omega) (by omega) (by omega)]
  rw [show ((a : Int) + (t : Int)).toNat = a + t by omega, Int.toNat_natCast]
  simp [go_sem]

theorem sliced_bits {w : World} {p : Option Addr} {l : List Bool} {a t : Nat} (c : Nat) (hc : BitsAt w p l) (hl : l.length ≤ c) (h : a + t ≤ l.length) : BitsAt w (if c = a then p else p.map fun x => x.add a) (sg l a t) := by
  unfold sg
  by_cases hca : c = a
  · intro i hi
    rw [List.length_take, List.length_drop] at hi
    omega
  · rw [if_neg hca]
    rcases p with _ | ⟨g, off, s⟩
    · intro i hi
      rw [List.length_take, List.length_drop] at hi
      obtain ⟨_, _, e, _⟩ := hc (a + i) (by omega)
      cases e
    · by_cases h0 : 0 < l.length
      · obtain ⟨_, _, e, _⟩ := hc 0 h0
        cases e
        show BitsAt w (some ((⟨g, off, none⟩ : Addr).add a)) _
        rw [Addr.add_lit]
        exact BitsAt.part hc a t
      · intro i hi
        rw [List.length_take, List.length_drop] at hi
        omega

end Go.Proofs.Ytpdfkgdgpofhbaa
