/- region's Shift: the list in form of the shifted rectangles. -/
import Derived.Test.YtjgbelljijhfcaaMathG
import Derived.Test.YtjgbelljijhfcaaSame
namespace Go.Proofs.Ytjgbelljijhfcaa
open Go.RowKit

theorem shiftR_fit (r : Rc) (dx dy : Int) : Fit (shiftR r dx dy) := by
  rcases shift_cases r dx dy with e | ⟨hg, e, h1, h2, h3, h4⟩
  · rw [e]; exact ⟨by decide, by decide⟩
  · rw [e]
    have := goodR_iff.1 hg
    exact ⟨by simp only [tr]; omega, by simp only [tr]; omega⟩

theorem shiftL_take (xs : List Rc) (dx dy : Int) (k : Nat) (h : k < xs.length) : shiftL (xs.take (k + 1)) dx dy = shiftL (xs.take k) dx dy ++ [shiftR xs[k] dx dy] := by
  simp only [shiftL]
  rw [List.take_succ_eq_append_getElem h, List.map_append]; rfl

set_option maxHeartbeats 1000000 in
theorem regShift_any (v : Value) (xs : List Rc) (dx dy : Int) (w : World) (hv : Row encR 4 w v xs) (hf : ∀ r ∈ xs, Fit r) (hlen : xs.length ≤ 67108864) :
    Calls Try.prog 21 #[v, .int .i64 dx, .int .i64 dy] w fun e w' => ∃ u, e = .returned u ∧ w'.ownsRow w.heap.size 30 4 u (formL (fun p _ => p) (shiftL xs dx dy) []).length (flatR (formL (fun p _ => p) (shiftL xs dx dy) [])) ∧ Below w.heap.size w w' := by
  obtain ⟨p, cap, rfl, -, -, hp⟩ := hv
  have Hf := Lib.hid hf
  clear hf
  obtain ⟨i0, hi, hz0, hz1, hz2⟩ := info_parts rc_info
  go_enter Try.func21, Try.ntmps21
  go_wp2_with (at_make; refine wpList_make_own _ rfl _ _ 22 rfl w.heap.size 30 i0 _ 4 Try.underlying22 hi hz0 hz1 _ _ _ xs.length rfl rfl (by simp) ?m1 ?m2 ?m3 ?_)
  case m1 => rw [hz2]; omega
  case m2 => simp only [maxLen]; omega
  case m3 => exact Nat.le_refl _
  intro w1 hown1 hgr1
  have hb1 : Below w.heap.size w w1 := (Below.refl _ w).grown hgr1 (Nat.le_refl _) (fun k e => by cases e)
  have Hown1 := Lib.hid hown1
  clear hown1 hgr1
  go_wp2
  go_loopw [7, 15] (fun v i wr => ∃ k : Nat, k ≤ xs.length ∧ i = .int .i64 k ∧ Below w.heap.size w wr ∧ wr.ownsRow w.heap.size 30 4 v (shiftL (xs.take k) dx dy).length (flatR (shiftL (xs.take k) dx dy))) (fun _ i _ => xs.length - (intOf i).toNat)
  case atStart => exact ⟨0, by omega, rfl, hb1, Hown1.out⟩
  case round =>
    obtain ⟨k, hk, rfl, hb, hown⟩ := hrel
    by_cases hlt : k < xs.length
    · obtain ⟨b, off, rfl, hB, hc⟩ := (hp.below hb).rc hlt
      obtain ⟨a0, a1, a2, a3⟩ := hc k hlt
      have hft := Hf.out xs[k] (List.getElem_mem hlt)
      have Hnext := Lib.hid (shiftL_take xs dx dy k hlt)
      have hln : (shiftL (xs.take k) dx dy).length = k := by simp [shiftL]; omega
      clear hc
      generalize xs[k] = r at *
      generalize shiftL (xs.take k) dx dy = l at *
      have hal := Below.al1 wr (.cells #[.int .i64 r.x, .int .i64 r.y, .int .i64 r.a, .int .i64 r.b] 30)
      have Hb := Lib.hid hb
      have Hown := Lib.hid hown
      clear hb hown
      go_wp2_with fail
      refine Calls.mono (shift_any r dx dy _ hft) ?_
      rintro e w2 ⟨rfl, hb2⟩
      have hbw := Below.thn hal hb2
      have Hbw := Lib.hid (Hb.out.trans (hbw.mono Hb.out.size))
      have Hown2 := Lib.hid ((Turns.of_below' (T := fun _ => False) hbw).owns Hown.out (fun _ _ h => h))
      have Hln := Lib.hid hln
      clear hal hbw hb2 hln
      generalize shiftR r dx dy = s at *
      go_wp2_with (at_builtin; refine wpList_append_mine _ rfl _ _ 22 rfl w.heap.size 30 i0 _ 4 32 Try.underlying22 hi hz0 hz1 hz2 rfl (by decide) _ _ _ rfl (Hown2.out.alloc _) (some ⟨w2.heap.size, 0, none⟩) 1 1 (flatR [s]) rfl rfl ?c1 ?c2 ?c3 ?c4 ?c5 ?_)
      case c1 => exact .inr ⟨_, rfl, fun j u hu => cells_new' w2 _ _ j u hu⟩
      case c2 => exact encR_one _
      case c3 => rw [Hln.out]; simp only [maxLen]; omega
      case c4 => rw [Hln.out]; omega
      case c5 => have := Hbw.out.size; simp; omega
      intro v' w3 hown' hgrow hpl
      have Hb3 := Lib.hid ((Below.al Hbw.out _).grown hgrow (by have := Hbw.out.size; simp; omega) (fun k' e => (Hown2.out.lt k' e).1))
      have Hres := Lib.hid (show w3.ownsRow w.heap.size 30 4 v' (shiftL (xs.take (k + 1)) dx dy).length (flatR (shiftL (xs.take (k + 1)) dx dy)) by
        rw [Hnext.out]; simpa [flatR] using hown')
      clear hown' hgrow hpl
      go_wp2
      go_roundw
      case rel => exact ⟨k + 1, by omega, by go_num, Hb3.out, Hres.out⟩
      case measure => simp [intOf]; omega
    · obtain rfl : k = xs.length := by omega
      rw [List.take_length] at hown
      have hrow : Row encR 4 wr u7 (shiftL xs dx dy) := owns_row' (enc := encR) (k := 4) (fun _ => rfl) hown
      have hsf : ∀ r ∈ shiftL xs dx dy, Fit r := by
        intro r hr
        obtain ⟨s, hs, rfl⟩ := List.mem_map.1 hr
        exact shiftR_fit s dx dy
      have hsl : (shiftL xs dx dy).length ≤ 67108864 := by simpa [shiftL] using hlen
      have Hb := Lib.hid hb
      clear hown hb
      go_wp2_with fail
      refine Calls.mono (regOf_any _ _ _ hrow hsf hsl (form_len _ rfl _ _)) ?_
      rintro e w2 ⟨u, rfl, hown2, hb2⟩
      have Hown2 := Lib.hid (owns_mono hown2 Hb.out.size)
      have Hb2 := Lib.hid (Hb.out.trans (hb2.mono Hb.out.size))
      clear hown2 hb2
      go_wp2
      go_ret
      exact ⟨_, rfl, Hown2.out, Hb2.out⟩

end Go.Proofs.Ytjgbelljijhfcaa
