/- inflate: stored: a block of bytes as they are. -/
import Derived.Test.YtajidlihepjegaaK831
namespace Go.Proofs.Ytajidlihepjegaa
open Go.RowKit Go.Maps

theorem bys_succ (l : List Nat) (a n : Nat) : bys l a (n + 1) = bys l a n ++ [nb l (a + 8 * n) 8] := by simp [bys, List.range_succ]
theorem bys_len (l : List Nat) (a n : Nat) : (bys l a n).length = n := by simp [bys]

section
variable {base S B : Nat} {sv ov uv : Value} {l : List Nat} {lim a : Nat} {o : List Nat}

theorem alN_le {w : World} (h : Sm w base S B sv ov uv l lim a o) : alN a ≤ 8 * l.length := by
  have := h.rd.pos
  unfold alN; omega

/-- Align for a stream's reader. -/
theorem ialign_any (w : World) (h : Rd w B sv l a) :
    Calls Try.prog 43 #[.pointer (some ⟨B, 0, none⟩)] w fun e w' => e = .returned (.int .i64 0) ∧ Rd w' B sv l (alN a) ∧ Turns (fun b => b = B) w w' := by
  have hp := h.pos
  have hl := h.len
  have H := Lib.hid h
  have c1 := h.c1
  have hpa : alN a ≤ 8 * l.length := by unfold alN; omega
  obtain ⟨m, hm⟩ : ∃ m, (8 - a % 8) % 8 = m := ⟨_, rfl⟩
  have hwm : IntKind.i64.wrap ((a : Int) + (m : Int)) = ((alN a : Nat) : Int) := by unfold alN; rw [hm, IntWalk.i64_in _ (by omega)]; omega
  have Hm := Lib.hid hm
  have ha63 : a ≤ 9223372036854775807 := by omega
  clear h hp hm
  go_enter Try.func43, Try.ntmps43
  go_upto_region 3 with (fail)
  have hq := After.ne w
  have e1 := After.rule c1
  refine wp_region_head 10 (by kernel_rfl) (by kernel_rfl) (by kernel_rfl) ?_
  repeat (refine Lq_step (fun K hK => ?_); go_simp; first | (refine hK _ ?_; clear hK K) | (apply Exists.intro; refine ⟨fun n => ?_, hK _ ?_⟩; (exact Calls.mono (missing_any a n.world ha63) (fun e w' ⟨he, hw⟩ => ⟨he, by rw [hw]; exact Below.refl _ _⟩)); rw [Hm.out]; clear hK K))
  refine Lq_nil ?_
  intro w2 hb2
  clear e1 hq
  have h2 := H.out.below hb2
  have Hto2 := Lib.hid (h2.to (a' := alN a) hpa)
  have Htr := Lib.hid (show Turns (fun b => b = B) w (w2.setCell ⟨B, 1, none⟩ (.int .i64 ((alN a : Nat) : Int))) from (Turns.of_below' (T := fun b => b = B) hb2).set (p := ⟨B, 1, none⟩) rfl _)
  have d1 := h2.c1
  have g1 := h2.free 1
  clear c1 h2 hb2
  go_wp2
  go_ret
  exact ⟨rfl, Hto2.out, Htr.out⟩

set_option maxRecDepth 20000 in
set_option maxHeartbeats 4000000 in
theorem istored_any (w : World) (h : Sm w base S B sv ov uv l lim a o) :
    Calls Try.prog 51 #[.pointer (some ⟨S, 0, none⟩)] w (Ends base S B sv ov uv l lim w (InfSd l lim a o)) := by
  have c0 := h.c0
  have H := Lib.hid h
  clear h
  go_enter Try.func51, Try.ntmps51
  go_wp2_with fail
  refine Calls.mono (ialign_any w H.out.rd) ?_
  rintro e w1 ⟨rfl, hr, ht⟩
  have H1 := Lib.hid (H.out.reads hr ht)
  obtain ⟨a1, ha1⟩ : ∃ a1, alN a = a1 := ⟨_, rfl⟩
  rw [ha1] at H1
  have Ha := Lib.hid ha1
  clear hr ht c0 ha1
  go_wp2_with fail
  refine Calls.mono (icheck_ok _) ?_
  rintro e w2 ⟨rfl, rfl⟩
  go_wp2_with fail
  refine Calls.mono (inum_any 16 (by decide) w2 H1.out.1) ?_
  rintro e w3 (⟨h1, rfl, hs⟩ | ⟨h1, rfl, hs⟩)
  case inr =>
    have Hs := Lib.hid hs
    clear hs
    go_wp2
    exact ⟨rfl, .inr ⟨50, .few (by rw [Ha.out]; omega), rfl, H1.out.2.throws Hs.out⟩⟩
  have H3 := Lib.hid (And.intro hs.1 (H1.out.2.trans hs.2))
  have hn16 : nb l a1 16 < 65536 := nb_lt l a1 16
  obtain ⟨n, hn⟩ : ∃ n, nb l a1 16 = n := ⟨_, rfl⟩
  rw [hn] at hn16 ⊢
  have Hn := Lib.hid hn
  clear hs hn H1
  go_wp2_with fail
  refine Calls.mono (inum_any 16 (by decide) w3 H3.out.1) ?_
  rintro e w4 (⟨h2, rfl, hs⟩ | ⟨h2, rfl, hs⟩)
  case inr =>
    have Hs := Lib.hid hs
    clear hs
    go_wp2
    exact ⟨rfl, .inr ⟨50, .few (by rw [Ha.out]; omega), rfl, H3.out.2.throws Hs.out⟩⟩
  have H4 := Lib.hid (And.intro hs.1 (H3.out.2.trans hs.2))
  have hm16 : nb l (a1 + 16) 16 < 65536 := nb_lt l (a1 + 16) 16
  obtain ⟨m, hm⟩ : ∃ m, nb l (a1 + 16) 16 = m := ⟨_, rfl⟩
  rw [hm] at hm16 ⊢
  have Hm := Lib.hid hm
  have hw1 : IntKind.i64.wrap (65535 - (n : Int)) = 65535 - (n : Int) := IntWalk.i64_in _ (by omega)
  clear hs hm H3
  by_cases hmn : m + n = 65535
  case neg =>
    have d0 : ((m : Int) != 65535 - (n : Int)) = true := by simp; omega
    go_wp2
    exact ⟨rfl, .inr ⟨80, .bad (by rw [Ha.out]; omega) (by rw [Ha.out, Hm.out, Hn.out]; exact hmn), rfl, H4.out.2.turns⟩⟩
  have d0 : ((m : Int) != 65535 - (n : Int)) = false := by simp; omega
  have c1 := H4.out.1.c1
  have c2 := H4.out.1.c2
  have hle := H4.out.1.le
  obtain ⟨p, c, rfl⟩ := owns_slice H4.out.1.out
  have hw2 : IntKind.i64.wrap ((lim : Int) - (o.length : Int)) = (lim : Int) - (o.length : Int) := IntWalk.i64_in _ (by omega)
  go_upto_region 4 with (fail)
  go_quiet (fail)
  rename_i nq
  have hd : Below w4.heap.size w4 (w4.drewN nq) := Below.drewN' (Below.refl _ _) nq
  have H5 := Lib.hid (And.intro (H4.out.1.below hd).1 (H4.out.2.trans (H4.out.1.below hd).2))
  generalize w4.drewN nq = W5 at *
  clear hd c1 c2 H4
  by_cases hov : lim < o.length + n
  · have d1 : decide ((n : Int) > (lim : Int) - (o.length : Int)) = true := by simp; omega
    go_wp2
    exact ⟨rfl, .inr ⟨81, .over (by rw [Ha.out]; omega) (by rw [Ha.out, Hm.out, Hn.out]; exact hmn) (by rw [Ha.out, Hn.out]; exact hov), rfl, H5.out.2.turns⟩⟩
  have d1 : decide ((n : Int) > (lim : Int) - (o.length : Int)) = false := by simp; omega
  have d1' : decide ((lim : Int) - (o.length : Int) < (n : Int)) = false := by simp; omega
  simp only [d1']
  go_wp2_with fail
  go_loopw [33] (fun iv wr => ∃ (i : Nat) (ov' : Value), iv = .int .i64 (i : Int) ∧ i ≤ n ∧ Hid (Sm wr base S B sv ov' uv l lim (a1 + 32 + 8 * i) (o ++ bys l (a1 + 32) i) ∧ Fr S B (.slice p o.length c) w ov' wr)) (fun iv _ => n - (intOf iv).toNat)
  case atStart => exact ⟨0, _, rfl, Nat.zero_le _, Lib.hid ⟨by have := H5.out.1; simpa [bys] using this, H5.out.2⟩⟩
  case round =>
    obtain ⟨i, ov', rfl, hi, HW⟩ := hrel
    by_cases hin : i < n
    · have d2 : decide ((i : Int) < (n : Int)) = true := by simp; omega
      go_wp2_with fail
      refine Calls.mono (inum_any 8 (by decide) wr HW.out.1) ?_
      rintro e w6 (⟨h3, rfl, hs⟩ | ⟨h3, rfl, hs⟩)
      case inr =>
        have Hs := Lib.hid hs
        clear hs
        go_wp2
        exact ⟨rfl, .inr ⟨50, .few2 (by rw [Ha.out]; omega) (by rw [Ha.out, Hm.out, Hn.out]; exact hmn) (by rw [Ha.out, Hn.out]; omega) (by rw [Ha.out, Hn.out]; omega), rfl, HW.out.2.throws Hs.out⟩⟩
      have H6 := Lib.hid (And.intro hs.1 (HW.out.2.trans hs.2))
      have hx8 : nb l (a1 + 32 + 8 * i) 8 < 256 := nb_lt l _ 8
      obtain ⟨x, hx⟩ : ∃ x, nb l (a1 + 32 + 8 * i) 8 = x := ⟨_, rfl⟩
      rw [hx] at hx8 ⊢
      have hsn := bys_succ l (a1 + 32) i
      rw [hx] at hsn
      have Hsn := Lib.hid hsn
      have hlen := bys_len l (a1 + 32) i
      have Hlen := Lib.hid hlen
      have hwx : IntKind.u8.wrap (x : Int) = (x : Int) := IntWalk.u8_in _ (by omega)
      clear hs hx hsn hlen HW
      go_wp2_with fail
      refine Calls.mono (icome_any x hx8 w6 H6.out.1) ?_
      rintro e w7 (⟨h4, rfl, ov7, hs⟩ | ⟨h4, -, -⟩)
      case inr =>
        have := Hlen.out
        rw [List.length_append, this] at h4
        omega
      have Hs := Lib.hid hs
      clear hs
      go_wp2
      go_roundw
      case rel => exact ⟨i + 1, ov7, by go_num, by omega, Lib.hid ⟨by rw [Hsn.out, ← List.append_assoc, show a1 + 32 + 8 * (i + 1) = a1 + 32 + 8 * i + 8 by omega]; exact Hs.out.1, H6.out.2.trans Hs.out.2⟩⟩
      case measure => simp [intOf]; omega
    · obtain rfl : i = n := by omega
      have hpos := HW.out.1.rd.pos
      go_wp2
      go_end0
      refine .inl ⟨_, _, ov', .done (by rw [Ha.out]; omega) (by rw [Ha.out, Hm.out, Hn.out]; exact hmn) (by rw [Ha.out, Hn.out]; omega) (by rw [Ha.out, Hn.out]; exact hpos), rfl, ?_, HW.out.2⟩
      rw [Ha.out, Hn.out]
      exact HW.out.1
end

end Go.Proofs.Ytajidlihepjegaa
