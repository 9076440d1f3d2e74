/- Several texts in one, each with its own head. -/
import Derived.Test.YtdcmalbbijchiaaZq23
/- inflate: tokens: the symbols of a block, up to its end. -/
namespace Go.Proofs.Ytdcmalbbijchiaa
open Go.RowKit Go.Maps

theorem Sy.in' {ls l : List Nat} {a x : Nat} {e : Int} {s : Nat} (h : Sy ls l a x e s) : a + s ≤ 8 * l.length := by
  obtain ⟨F, L, -, -, h⟩ := h
  exact h.le.2
theorem Sy.pos {ls l : List Nat} {a x s : Nat} (h : Sy ls l a x 0 s) : 1 ≤ s ∧ x < ls.length := by
  obtain ⟨F, L, h1, -, h⟩ := h
  rcases h.ans with ⟨-, h2, h3⟩ | ⟨h2, -⟩ | ⟨h2, -⟩
  · exact ⟨h2, (h1.out _ _ h3).1⟩
  · exact absurd h2 (by decide)
  · exact absurd h2 (by decide)

theorem lnBits_le : ∀ x, x < 286 → lnBits x ≤ 24 := by decide +kernel
theorem lnBase_le : ∀ x, x < 286 → lnBase x ≤ 1000 := by decide +kernel
theorem lnBits_5 : ∀ x, x < 286 → lnBits x ≤ 5 := by decide +kernel
theorem lnSum_le (l : List Nat) (a x : Nat) (_h0 : 256 < x) (h : x < 286) (n : Nat) (hn : lnBase x + nb l a (lnBits x) = n) : n ≤ 1000000 := by
  have h1 := lnBase_le x h
  have h2 : nb l a (lnBits x) < 32 := Nat.lt_of_lt_of_le (nb_lt _ _ _) (Nat.pow_le_pow_right (n := 2) (j := 5) (by decide) (lnBits_5 x h))
  omega

section
variable {base S B : Nat} {sv ov uv : Value} {l : List Nat} {lim a : Nat} {o : List Nat}

/-- How a method that lets bytes come ends: where the relation leads, or thrown. -/
def Ends (base S B : Nat) (sv ov uv : Value) (l : List Nat) (lim : Nat) (w : World) (R : InfSt → Prop) (e : Ending) (w' : World) : Prop :=
  (∃ (a' : Nat) (o' : List Nat) (ov' : Value), R (.go a' o') ∧ e = .returned (.tuple #[]) ∧ Sm w' base S B sv ov' uv l lim a' o' ∧ Fr S B ov w ov' w') ∨ (∃ er, R (.no er) ∧ e = thrown er ∧ Turns (KS S B ov) w w')

set_option maxHeartbeats 1000000 in
theorem irep_far (n d : Nat) (w : World) (h : Sm w base S B sv ov uv l lim a o) (hdo : o.length < d) :
    Calls Try.prog 67 #[.pointer (some ⟨S, 0, none⟩), .int .i64 (n : Int), .int .i64 (d : Int)] w fun e w' => e = thrown 70 ∧ w' = w := by
  have c1 := h.c1
  obtain ⟨p, c, rfl⟩ := owns_slice h.out
  have d0 : decide (o.length < d) = true := by simpa using hdo
  clear h
  go_enter Try.func67, Try.ntmps67
  go_wp2
  exact ⟨rfl, rfl, rfl⟩

set_option maxRecDepth 20000 in
set_option maxHeartbeats 4000000 in
theorem itok_any (cv : Value) (A D : List Nat) (w : World) (h : Sm w base S B sv ov uv l lim a o) (hc : Codn w (KS S B ov) cv A D) (hA : A.length ≤ 320 ∧ D.length ≤ 320) :
    Calls Try.prog 56 #[.pointer (some ⟨S, 0, none⟩), cv] w (Ends base S B sv ov uv l lim w (InfToks A D l lim a o)) := by
  have H := Lib.hid h
  have Hc := Lib.hid hc
  obtain ⟨C, ta, td, rfl, -⟩ := hc
  clear h
  go_enter Try.func56, Try.ntmps56
  go_wp2_with fail
  go_loopw [4] (fun _ wr => ∃ (a1 : Nat) (o1 : List Nat) (ov1 : Value), Hid (Sm wr base S B sv ov1 uv l lim a1 o1 ∧ Fr S B ov w ov1 wr ∧ Codn wr (KS S B ov1) (.pointer (some ⟨C, 0, none⟩)) A D ∧ ∀ r, InfToks A D l lim a1 o1 r → InfToks A D l lim a o r))
    (fun _ wr => 8 * l.length - (intOf ((wr.cell? ⟨B, 1, none⟩).getD undef)).toNat)
  case atStart => exact ⟨a, o, ov, Lib.hid ⟨H.out, Fr.refl _ _ _ _, Hc.out, fun r h => h⟩⟩
  case round =>
    obtain ⟨a1, o1, ov1, HW⟩ := hrel
    obtain ⟨C', ta', td', e', hC, -, hta, htd⟩ := HW.out.2.2.1
    cases e'
    have c0 : wr.cell? ⟨C, 0, none⟩ = some ta' := by simp [World.cell?, hC]
    have Hta := Lib.hid hta
    clear hC hta htd
    go_wp2_with fail
    refine Calls.mono (isym_any ta' A wr HW.out.1 Hta.out) ?_
    rintro e w1 ⟨x, er, s, hsy, (⟨rfl, rfl, hs⟩ | ⟨her, rfl, hs⟩)⟩
    case inr =>
      have Hs := Lib.hid hs
      have Hsy := Lib.hid hsy
      clear hs hsy
      go_wp2
      exact ⟨rfl, .inr ⟨er, HW.out.2.2.2 _ (.no _ _ _ (.bad x s er Hsy.out her)), rfl, HW.out.2.1.throws Hs.out⟩⟩
    have hpos := hsy.pos
    have hin := hsy.in'
    have Hsy := Lib.hid hsy
    have HS := Lib.hid hs.1
    have HF := Lib.hid (HW.out.2.1.trans hs.2)
    have HC := Lib.hid (hs.2.codn HW.out.2.2.1)
    have HR := Lib.hid HW.out.2.2.2
    have hm0 : (intOf ((wr.cell? ⟨B, 1, none⟩).getD undef)).toNat = a1 := by rw [HW.out.1.rd.c1]; simp [intOf]
    have Hm0 := Lib.hid hm0
    clear hsy hs hm0 Hta c0 HW
    by_cases hx : x < 256
    · have d0 : decide ((x : Int) < 256) = true := by simp; omega
      have hw : IntKind.u8.wrap (x : Int) = (x : Int) := IntWalk.u8_in _ (by omega)
      go_wp2_with fail
      refine Calls.mono (icome_any x hx w1 HS.out) ?_
      rintro e w2 (⟨h1, rfl, ov2, hs⟩ | ⟨h1, rfl, hs⟩)
      · have Hs := Lib.hid hs
        clear hs
        go_wp2
        go_roundw
        case rel => exact ⟨a1 + s, o1 ++ [x], ov2, Lib.hid ⟨Hs.out.1, HF.out.trans Hs.out.2, Hs.out.2.codn HC.out, fun r hr => HR.out r (.more _ _ _ _ _ (.byte x s Hsy.out hx h1) hr)⟩⟩
        case measure => rw [Hs.out.1.rd.c1, Hm0.out]; simp [intOf]; omega
      · have Hs := Lib.hid hs
        clear hs
        go_wp2
        exact ⟨rfl, .inr ⟨81, HR.out _ (.no _ _ _ (.full x s Hsy.out hx h1)), rfl, HF.out.throws Hs.out⟩⟩
    have d0 : decide ((x : Int) < 256) = false := by simp; omega
    by_cases hx6 : x = 256
    · subst hx6
      go_wp2
      go_end0
      exact .inl ⟨a1 + s, o1, ov1, HR.out _ (.fin _ _ _ (.fin s Hsy.out)), rfl, HS.out, HF.out⟩
    have d1 : ((x : Int) == 256) = false := by simp; omega
    by_cases hfar : 285 < x
    · go_wp2_with fail
      refine Calls.mono (ilen_far x w1 hfar (by omega)) ?_
      rintro e w2 ⟨rfl, rfl⟩
      go_wp2
      exact ⟨rfl, .inr ⟨80, HR.out _ (.no _ _ _ (.rep x s _ Hsy.out (by omega) (.far hfar))), rfl, HF.out.turns⟩⟩
    go_wp2_with fail
    refine Calls.mono (ilen_any x w1 (by omega) (by omega) HS.out) ?_
    rintro e w2 (⟨h1, rfl, hs⟩ | ⟨h1, rfl, hs⟩)
    case inr =>
      have Hs := Lib.hid hs
      clear hs
      go_wp2
      exact ⟨rfl, .inr ⟨50, HR.out _ (.no _ _ _ (.rep x s _ Hsy.out (by omega) (.few (by omega) h1))), rfl, HF.out.throws Hs.out⟩⟩
    have hs2 := hs
    obtain ⟨C', ta', td', e', hC, -, -, htd⟩ := hs.2.codn HC.out
    cases e'
    have c1 : w2.cell? ⟨C, 1, none⟩ = some td' := by simp [World.cell?, hC]
    have Htd := Lib.hid htd
    have HS2 := Lib.hid hs.1
    have HF2 := Lib.hid (HF.out.trans hs.2)
    have HC2 := Lib.hid (hs.2.codn HC.out)
    have hnb : nb l (a1 + s) (lnBits x) < 16777216 := Nat.lt_of_lt_of_le (nb_lt _ _ _) (Nat.pow_le_pow_right (n := 2) (j := 24) (by decide) (lnBits_le x (by omega)))
    have hlb : lnBase x ≤ 1000 := lnBase_le x (by omega)
    obtain ⟨n, hn⟩ : ∃ n, lnBase x + nb l (a1 + s) (lnBits x) = n := ⟨_, rfl⟩
    rw [hn]
    have Hn := Lib.hid hn
    have hnl : n ≤ 1000000 := lnSum_le l (a1 + s) x (by omega) (by omega) n hn
    clear hC htd hs hs2 HS HF HC hn hnb hlb
    go_wp2_with fail
    refine Calls.mono (isym_any td' D w2 HS2.out Htd.out) ?_
    rintro e w3 ⟨y, er, t, hsy, (⟨rfl, rfl, hs⟩ | ⟨her, rfl, hs⟩)⟩
    case inr =>
      have Hs := Lib.hid hs
      have Hsy2 := Lib.hid hsy
      clear hs hsy
      go_wp2
      exact ⟨rfl, .inr ⟨er, HR.out _ (.no _ _ _ (.rep x s _ Hsy.out (by omega) (.bad (by omega) h1 y t er Hsy2.out her))), rfl, HF2.out.throws Hs.out⟩⟩
    have hpos2 := hsy.pos
    have Hsy2 := Lib.hid hsy
    have HS3 := Lib.hid hs.1
    have HF3 := Lib.hid (HF2.out.trans hs.2)
    have HC3 := Lib.hid (hs.2.codn HC2.out)
    clear hs hsy HS2 HF2 HC2 Htd c1
    by_cases hy : 29 < y
    · go_wp2_with fail
      refine Calls.mono (idist_far y w3 hy (by omega)) ?_
      rintro e w4 ⟨rfl, rfl⟩
      go_wp2
      exact ⟨rfl, .inr ⟨80, HR.out _ (.no _ _ _ (.rep x s _ Hsy.out (by omega) (.wide (by omega) h1 y t Hsy2.out hy))), rfl, HF3.out.turns⟩⟩
    go_wp2_with fail
    refine Calls.mono (idist_any y w3 (by omega) HS3.out) ?_
    rintro e w4 (⟨h2, rfl, hs⟩ | ⟨h2, rfl, hs⟩)
    case inr =>
      have Hs := Lib.hid hs
      clear hs
      go_wp2
      exact ⟨rfl, .inr ⟨50, HR.out _ (.no _ _ _ (.rep x s _ Hsy.out (by omega) (.few2 (by omega) h1 y t Hsy2.out (by omega) h2))), rfl, HF3.out.throws Hs.out⟩⟩
    have HS4 := Lib.hid hs.1
    have HF4 := Lib.hid (HF3.out.trans hs.2)
    have HC4 := Lib.hid (hs.2.codn HC3.out)
    have hd1 : 1 ≤ dsBase y := by unfold dsBase; omega
    obtain ⟨d, hd⟩ : ∃ d, dsBase y + nb l (a1 + s + lnBits x + t) (dsBits y) = d := ⟨_, rfl⟩
    rw [hd]
    have Hd := Lib.hid hd
    have hd1' : 1 ≤ d := by omega
    clear hs HS3 HF3 HC3 hd hd1
    by_cases hdo : o1.length < d
    · go_wp2_with fail
      refine Calls.mono (irep_far n d w4 HS4.out hdo) ?_
      rintro e w5 ⟨rfl, rfl⟩
      go_wp2
      exact ⟨rfl, .inr ⟨70, HR.out _ (.no _ _ _ (.rep x s _ Hsy.out (by omega) (.dist (by omega) h1 y t Hsy2.out (by omega) h2 (by rw [Hd.out]; exact hdo)))), rfl, HF4.out.turns⟩⟩
    go_wp2_with fail
    refine Calls.mono (irep_any n d w4 HS4.out hd1' (by omega) hnl) ?_
    rintro e w5 (⟨h3, rfl, ov5, hs⟩ | ⟨h3, rfl, hs⟩)
    · have Hs := Lib.hid hs
      clear hs
      go_wp2
      go_roundw
      case rel =>
        refine ⟨_, _, ov5, Lib.hid ⟨Hs.out.1, HF4.out.trans Hs.out.2, Hs.out.2.codn HC4.out, fun r hr => HR.out r (.more _ _ _ _ _ (.rep x s _ Hsy.out (by omega) (.done (by omega) h1 y t Hsy2.out (by omega) h2 (by rw [Hd.out]; omega) (by rw [Hn.out]; exact h3))) ?_)⟩⟩
        rw [Hd.out, Hn.out]
        exact hr
      case measure => rw [Hs.out.1.rd.c1, Hm0.out]; simp [intOf]; omega
    · have Hs := Lib.hid hs
      clear hs
      go_wp2
      exact ⟨rfl, .inr ⟨81, HR.out _ (.no _ _ _ (.rep x s _ Hsy.out (by omega) (.over (by omega) h1 y t Hsy2.out (by omega) h2 (by rw [Hd.out]; omega) (by rw [Hn.out]; exact h3)))), rfl, HF4.out.throws Hs.out⟩⟩
end

end Go.Proofs.Ytdcmalbbijchiaa

/- inflate: stored: a block of bytes as they are. -/
namespace Go.Proofs.Ytdcmalbbijchiaa
open Go.RowKit Go.Maps

theorem bys_succ (l : List Nat) (a n : Nat) : bys l a (n + 1) = bys l a n ++ [nb l (a + 8 * n) 8] := by simp [bys, List.range_succ]
theorem bys_len (l : List Nat) (a n : Nat) : (bys l a n).length = n := by simp [bys]

section
variable {base S B : Nat} {sv ov uv : Value} {l : List Nat} {lim a : Nat} {o : List Nat}

theorem alN_le {w : World} (h : Sm w base S B sv ov uv l lim a o) : alN a ≤ 8 * l.length := by
  have := h.rd.pos
  unfold alN; omega

/-- Align for a stream's reader. -/
theorem ialign_any (w : World) (h : Rd w B sv l a) :
    Calls Try.prog 39 #[.pointer (some ⟨B, 0, none⟩)] w fun e w' => e = .returned (.int .i64 0) ∧ Rd w' B sv l (alN a) ∧ Turns (fun b => b = B) w w' := by
  have hp := h.pos
  have hl := h.len
  have H := Lib.hid h
  have c1 := h.c1
  have hpa : alN a ≤ 8 * l.length := by unfold alN; omega
  obtain ⟨m, hm⟩ : ∃ m, (8 - a % 8) % 8 = m := ⟨_, rfl⟩
  have hwm : IntKind.i64.wrap ((a : Int) + (m : Int)) = ((alN a : Nat) : Int) := by unfold alN; rw [hm, IntWalk.i64_in _ (by omega)]; omega
  have Hm := Lib.hid hm
  have ha63 : a ≤ 9223372036854775807 := by omega
  clear h hp hm
  go_enter Try.func39, Try.ntmps39
  go_upto_region 3 with (fail)
  have hq := After.ne w
  have e1 := After.rule c1
  refine wp_region_head 10 (by kernel_rfl) (by kernel_rfl) (by kernel_rfl) ?_
  repeat (refine Lq_step (fun K hK => ?_); go_simp; first | (refine hK _ ?_; clear hK K) | (apply Exists.intro; refine ⟨fun n => ?_, hK _ ?_⟩; (exact Calls.mono (missing_any a n.world ha63) (fun e w' ⟨he, hw⟩ => ⟨he, by rw [hw]; exact Below.refl _ _⟩)); rw [Hm.out]; clear hK K))
  refine Lq_nil ?_
  intro w2 hb2
  clear e1 hq
  have h2 := H.out.below hb2
  have Hto2 := Lib.hid (h2.to (a' := alN a) hpa)
  have Htr := Lib.hid (show Turns (fun b => b = B) w (w2.setCell ⟨B, 1, none⟩ (.int .i64 ((alN a : Nat) : Int))) from (Turns.of_below' (T := fun b => b = B) hb2).set (p := ⟨B, 1, none⟩) rfl _)
  have d1 := h2.c1
  have g1 := h2.free 1
  clear c1 h2 hb2
  go_wp2
  go_ret
  exact ⟨rfl, Hto2.out, Htr.out⟩

set_option maxRecDepth 20000 in
set_option maxHeartbeats 4000000 in
theorem istored_any (w : World) (h : Sm w base S B sv ov uv l lim a o) :
    Calls Try.prog 47 #[.pointer (some ⟨S, 0, none⟩)] w (Ends base S B sv ov uv l lim w (InfSd l lim a o)) := by
  have c0 := h.c0
  have H := Lib.hid h
  clear h
  go_enter Try.func47, Try.ntmps47
  go_wp2_with fail
  refine Calls.mono (ialign_any w H.out.rd) ?_
  rintro e w1 ⟨rfl, hr, ht⟩
  have H1 := Lib.hid (H.out.reads hr ht)
  obtain ⟨a1, ha1⟩ : ∃ a1, alN a = a1 := ⟨_, rfl⟩
  rw [ha1] at H1
  have Ha := Lib.hid ha1
  clear hr ht c0 ha1
  go_wp2_with fail
  refine Calls.mono (icheck_ok _) ?_
  rintro e w2 ⟨rfl, rfl⟩
  go_wp2_with fail
  refine Calls.mono (inum_any 16 (by decide) w2 H1.out.1) ?_
  rintro e w3 (⟨h1, rfl, hs⟩ | ⟨h1, rfl, hs⟩)
  case inr =>
    have Hs := Lib.hid hs
    clear hs
    go_wp2
    exact ⟨rfl, .inr ⟨50, .few (by rw [Ha.out]; omega), rfl, H1.out.2.throws Hs.out⟩⟩
  have H3 := Lib.hid (And.intro hs.1 (H1.out.2.trans hs.2))
  have hn16 : nb l a1 16 < 65536 := nb_lt l a1 16
  obtain ⟨n, hn⟩ : ∃ n, nb l a1 16 = n := ⟨_, rfl⟩
  rw [hn] at hn16 ⊢
  have Hn := Lib.hid hn
  clear hs hn H1
  go_wp2_with fail
  refine Calls.mono (inum_any 16 (by decide) w3 H3.out.1) ?_
  rintro e w4 (⟨h2, rfl, hs⟩ | ⟨h2, rfl, hs⟩)
  case inr =>
    have Hs := Lib.hid hs
    clear hs
    go_wp2
    exact ⟨rfl, .inr ⟨50, .few (by rw [Ha.out]; omega), rfl, H3.out.2.throws Hs.out⟩⟩
  have H4 := Lib.hid (And.intro hs.1 (H3.out.2.trans hs.2))
  have hm16 : nb l (a1 + 16) 16 < 65536 := nb_lt l (a1 + 16) 16
  obtain ⟨m, hm⟩ : ∃ m, nb l (a1 + 16) 16 = m := ⟨_, rfl⟩
  rw [hm] at hm16 ⊢
  have Hm := Lib.hid hm
  have hw1 : IntKind.i64.wrap (65535 - (n : Int)) = 65535 - (n : Int) := IntWalk.i64_in _ (by omega)
  clear hs hm H3
  by_cases hmn : m + n = 65535
  case neg =>
    have d0 : ((m : Int) != 65535 - (n : Int)) = true := by simp; omega
    go_wp2
    exact ⟨rfl, .inr ⟨80, .bad (by rw [Ha.out]; omega) (by rw [Ha.out, Hm.out, Hn.out]; exact hmn), rfl, H4.out.2.turns⟩⟩
  have d0 : ((m : Int) != 65535 - (n : Int)) = false := by simp; omega
  have c1 := H4.out.1.c1
  have c2 := H4.out.1.c2
  have hle := H4.out.1.le
  obtain ⟨p, c, rfl⟩ := owns_slice H4.out.1.out
  have hw2 : IntKind.i64.wrap ((lim : Int) - (o.length : Int)) = (lim : Int) - (o.length : Int) := IntWalk.i64_in _ (by omega)
  go_upto_region 4 with (fail)
  go_quiet (fail)
  rename_i nq
  have hd : Below w4.heap.size w4 (w4.drewN nq) := Below.drewN' (Below.refl _ _) nq
  have H5 := Lib.hid (And.intro (H4.out.1.below hd).1 (H4.out.2.trans (H4.out.1.below hd).2))
  generalize w4.drewN nq = W5 at *
  clear hd c1 c2 H4
  by_cases hov : lim < o.length + n
  · have d1 : decide ((n : Int) > (lim : Int) - (o.length : Int)) = true := by simp; omega
    go_wp2
    exact ⟨rfl, .inr ⟨81, .over (by rw [Ha.out]; omega) (by rw [Ha.out, Hm.out, Hn.out]; exact hmn) (by rw [Ha.out, Hn.out]; exact hov), rfl, H5.out.2.turns⟩⟩
  have d1 : decide ((n : Int) > (lim : Int) - (o.length : Int)) = false := by simp; omega
  have d1' : decide ((lim : Int) - (o.length : Int) < (n : Int)) = false := by simp; omega
  simp only [d1']
  go_wp2_with fail
  go_loopw [33] (fun iv wr => ∃ (i : Nat) (ov' : Value), iv = .int .i64 (i : Int) ∧ i ≤ n ∧ Hid (Sm wr base S B sv ov' uv l lim (a1 + 32 + 8 * i) (o ++ bys l (a1 + 32) i) ∧ Fr S B (.slice p o.length c) w ov' wr)) (fun iv _ => n - (intOf iv).toNat)
  case atStart => exact ⟨0, _, rfl, Nat.zero_le _, Lib.hid ⟨by have := H5.out.1; simpa [bys] using this, H5.out.2⟩⟩
  case round =>
    obtain ⟨i, ov', rfl, hi, HW⟩ := hrel
    by_cases hin : i < n
    · have d2 : decide ((i : Int) < (n : Int)) = true := by simp; omega
      go_wp2_with fail
      refine Calls.mono (inum_any 8 (by decide) wr HW.out.1) ?_
      rintro e w6 (⟨h3, rfl, hs⟩ | ⟨h3, rfl, hs⟩)
      case inr =>
        have Hs := Lib.hid hs
        clear hs
        go_wp2
        exact ⟨rfl, .inr ⟨50, .few2 (by rw [Ha.out]; omega) (by rw [Ha.out, Hm.out, Hn.out]; exact hmn) (by rw [Ha.out, Hn.out]; omega) (by rw [Ha.out, Hn.out]; omega), rfl, HW.out.2.throws Hs.out⟩⟩
      have H6 := Lib.hid (And.intro hs.1 (HW.out.2.trans hs.2))
      have hx8 : nb l (a1 + 32 + 8 * i) 8 < 256 := nb_lt l _ 8
      obtain ⟨x, hx⟩ : ∃ x, nb l (a1 + 32 + 8 * i) 8 = x := ⟨_, rfl⟩
      rw [hx] at hx8 ⊢
      have hsn := bys_succ l (a1 + 32) i
      rw [hx] at hsn
      have Hsn := Lib.hid hsn
      have hlen := bys_len l (a1 + 32) i
      have Hlen := Lib.hid hlen
      have hwx : IntKind.u8.wrap (x : Int) = (x : Int) := IntWalk.u8_in _ (by omega)
      clear hs hx hsn hlen HW
      go_wp2_with fail
      refine Calls.mono (icome_any x hx8 w6 H6.out.1) ?_
      rintro e w7 (⟨h4, rfl, ov7, hs⟩ | ⟨h4, -, -⟩)
      case inr =>
        have := Hlen.out
        rw [List.length_append, this] at h4
        omega
      have Hs := Lib.hid hs
      clear hs
      go_wp2
      go_roundw
      case rel => exact ⟨i + 1, ov7, by go_num, by omega, Lib.hid ⟨by rw [Hsn.out, ← List.append_assoc, show a1 + 32 + 8 * (i + 1) = a1 + 32 + 8 * i + 8 by omega]; exact Hs.out.1, H6.out.2.trans Hs.out.2⟩⟩
      case measure => simp [intOf]; omega
    · obtain rfl : i = n := by omega
      have hpos := HW.out.1.rd.pos
      go_wp2
      go_end0
      refine .inl ⟨_, _, ov', .done (by rw [Ha.out]; omega) (by rw [Ha.out, Hm.out, Hn.out]; exact hmn) (by rw [Ha.out, Hn.out]; omega) (by rw [Ha.out, Hn.out]; exact hpos), rfl, ?_, HW.out.2⟩
      rw [Ha.out, Hn.out]
      exact HW.out.1
end

end Go.Proofs.Ytdcmalbbijchiaa
