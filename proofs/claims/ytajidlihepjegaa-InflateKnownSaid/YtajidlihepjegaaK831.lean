/- Several texts in one, each with its own head. -/
import Derived.Test.YtajidlihepjegaaK830
/- inflate: repeat: bytes that stood ahead come again, one by one. -/
namespace Go.Proofs.Ytajidlihepjegaa
open Go.RowKit Go.Maps

theorem ext_snoc (d : Nat) : ∀ (n : Nat) (o : List Nat), ext d (n + 1) o = ext d n o ++ [(ext d n o).getD ((ext d n o).length - d) 0]
  | 0, _ => rfl
  | n + 1, o => by
    rw [ext, ext_snoc d n]
    rfl

section
variable {base S B : Nat} {sv ov uv : Value} {l : List Nat} {lim a : Nat} {o : List Nat}

theorem Sm.byte {w : World} {p : Option Addr} {c : Nat} (h : Sm w base S B sv (.slice p o.length c) uv l lim a o) {i : Nat} (hi : i < o.length) : ∃ g, p = some ⟨g, 0, none⟩ ∧ w.cell? ⟨g, i, none⟩ = some (.int .u8 ((o.getD i 0 : Nat) : Int)) := by
  obtain ⟨g, c', e, -, -, hc⟩ := owns_ptr h.out (by omega)
  injection e with e1 _ _
  refine ⟨g, e1, hc i _ ?_⟩
  rw [List.getElem?_map, List.getElem?_eq_getElem hi, List.getD_eq_getElem?_getD, List.getElem?_eq_getElem hi]
  rfl
theorem getD_lt (h : ∀ b ∈ o, b < 256) (i : Nat) : o.getD i 0 < 256 := by
  rw [List.getD_eq_getElem?_getD]
  cases e : o[i]? with
  | none => decide
  | some b => exact h b (List.mem_of_getElem? e)

set_option maxRecDepth 20000 in
set_option maxHeartbeats 2000000 in
theorem irep_any (n d : Nat) (w : World) (h : Sm w base S B sv ov uv l lim a o) (hd : 1 ≤ d) (hdo : d ≤ o.length) (hn : n ≤ 1000000) :
    Calls Try.prog 71 #[.pointer (some ⟨S, 0, none⟩), .int .i64 (n : Int), .int .i64 (d : Int)] w fun e w' =>
      (o.length + n ≤ lim ∧ e = .returned (.tuple #[]) ∧ ∃ ov', Sm w' base S B sv ov' uv l lim a (ext d n o) ∧ Fr S B ov w ov' w') ∨ (lim < o.length + n ∧ e = thrown 81 ∧ Turns (KS S B ov) w w') := by
  have c1 := h.c1
  have H := Lib.hid h
  have hle := h.le
  obtain ⟨p, c, rfl⟩ := owns_slice h.out
  have d0 : decide (o.length < d) = false := by simp; omega
  clear h
  go_enter Try.func71, Try.ntmps71
  go_wp2_with fail
  go_loopw [15] (fun iv wr => ∃ (i : Nat) (ov' : Value), iv = .int .i64 (i : Int) ∧ i ≤ n ∧ Hid (Sm wr base S B sv ov' uv l lim a (ext d i o) ∧ Fr S B (.slice p o.length c) w ov' wr)) (fun iv _ => n - (intOf iv).toNat)
  case atStart => exact ⟨0, _, rfl, Nat.zero_le _, Lib.hid ⟨H.out, Fr.refl _ _ _ _⟩⟩
  case round =>
    obtain ⟨i, ov', rfl, hi, HW⟩ := hrel
    by_cases hin : i < n
    · have d1 : decide ((i : Int) < (n : Int)) = true := by simp; omega
      have hsn := ext_snoc d i o
      have hel := ext_len d i o
      obtain ⟨oi, hoi⟩ : ∃ oi, ext d i o = oi := ⟨_, rfl⟩
      rw [hoi] at HW hsn hel
      obtain ⟨p', c', rfl⟩ := owns_slice HW.out.1.out
      obtain ⟨g, rfl, hg⟩ := HW.out.1.byte (i := oi.length - d) (by omega)
      have e1 := HW.out.1.c1
      have hx := getD_lt HW.out.1.by' (oi.length - d)
      obtain ⟨x, hxe⟩ : ∃ x, oi.getD (oi.length - d) 0 = x := ⟨_, rfl⟩
      rw [hxe] at hg hx hsn
      obtain ⟨j, hj⟩ : ∃ j, oi.length - d = j := ⟨_, rfl⟩
      rw [hj] at hg
      have hj1 : IntKind.i64.wrap ((oi.length : Int) - (d : Int)) = (j : Int) := by rw [IntWalk.i64_in _ (by omega)]; omega
      have hj0 : (0 : Int) ≤ (j : Int) := by omega
      have hj2 : (j : Int) < (oi.length : Int) := by omega
      have Hsn := Lib.hid hsn
      have Hel := Lib.hid hel
      clear hoi hsn hxe hj c1 hel
      go_upto_region 4 with (fail)
      have hqq := After.ne wr
      have C1 := After.rule e1
      have C2 := After.rule hg
      refine wp_region_head 14 (by kernel_rfl) (by kernel_rfl) (by kernel_rfl) ?_
      repeat (refine Lq_step (fun K hK => ?_); go_simp; (refine hK _ ?_; clear hK K))
      refine Lq_nil ?_
      intro w2 hb2
      simp only [List.drop_succ_cons, List.drop_zero]
      have HW2 := Lib.hid (HW.out.1.below hb2)
      clear C1 C2 hqq hb2 e1 hg
      go_wp2_with fail
      refine Calls.mono (icome_any x hx w2 HW2.out.1) ?_
      rintro e w3 (⟨h1, rfl, ov2, hs⟩ | ⟨h1, rfl, hs⟩)
      · have Hs := Lib.hid hs
        clear hs
        go_wp2
        go_roundw
        case rel => exact ⟨i + 1, ov2, by go_num, by omega, Lib.hid ⟨by rw [Hsn.out]; exact Hs.out.1, HW.out.2.trans (HW2.out.2.trans Hs.out.2)⟩⟩
        case measure => simp [intOf]; omega
      · have Hs := Lib.hid hs
        clear hs
        go_wp2
        have := Hel.out
        exact ⟨rfl, .inr ⟨by omega, rfl, HW.out.2.throws (HW2.out.2.throws Hs.out)⟩⟩
    · obtain rfl : i = n := by omega
      go_wp2
      go_end0
      have := ext_len d i o
      exact .inl ⟨by have := HW.out.1.le.1; omega, rfl, _, HW.out⟩
end

end Go.Proofs.Ytajidlihepjegaa

/- inflate: tokens: the symbols of a block, up to its end. -/
namespace Go.Proofs.Ytajidlihepjegaa
open Go.RowKit Go.Maps

theorem Sy.in' {ls l : List Nat} {a x : Nat} {e : Int} {s : Nat} (h : Sy ls l a x e s) : a + s ≤ 8 * l.length := by
  obtain ⟨F, L, -, -, h⟩ := h
  exact h.le.2
theorem Sy.pos {ls l : List Nat} {a x s : Nat} (h : Sy ls l a x 0 s) : 1 ≤ s ∧ x < ls.length := by
  obtain ⟨F, L, h1, -, h⟩ := h
  rcases h.ans with ⟨-, h2, h3⟩ | ⟨h2, -⟩ | ⟨h2, -⟩
  · exact ⟨h2, (h1.out _ _ h3).1⟩
  · exact absurd h2 (by decide)
  · exact absurd h2 (by decide)

theorem lnBits_le : ∀ x, x < 286 → lnBits x ≤ 24 := by decide +kernel
theorem lnBase_le : ∀ x, x < 286 → lnBase x ≤ 1000 := by decide +kernel
theorem lnBits_5 : ∀ x, x < 286 → lnBits x ≤ 5 := by decide +kernel
theorem lnSum_le (l : List Nat) (a x : Nat) (_h0 : 256 < x) (h : x < 286) (n : Nat) (hn : lnBase x + nb l a (lnBits x) = n) : n ≤ 1000000 := by
  have h1 := lnBase_le x h
  have h2 : nb l a (lnBits x) < 32 := Nat.lt_of_lt_of_le (nb_lt _ _ _) (Nat.pow_le_pow_right (n := 2) (j := 5) (by decide) (lnBits_5 x h))
  omega

section
variable {base S B : Nat} {sv ov uv : Value} {l : List Nat} {lim a : Nat} {o : List Nat}

/-- How a method that lets bytes come ends: where the relation leads, or thrown. -/
def Ends (base S B : Nat) (sv ov uv : Value) (l : List Nat) (lim : Nat) (w : World) (R : InfSt → Prop) (e : Ending) (w' : World) : Prop :=
  (∃ (a' : Nat) (o' : List Nat) (ov' : Value), R (.go a' o') ∧ e = .returned (.tuple #[]) ∧ Sm w' base S B sv ov' uv l lim a' o' ∧ Fr S B ov w ov' w') ∨ (∃ er, R (.no er) ∧ e = thrown er ∧ Turns (KS S B ov) w w')

set_option maxHeartbeats 1000000 in
theorem irep_far (n d : Nat) (w : World) (h : Sm w base S B sv ov uv l lim a o) (hdo : o.length < d) :
    Calls Try.prog 71 #[.pointer (some ⟨S, 0, none⟩), .int .i64 (n : Int), .int .i64 (d : Int)] w fun e w' => e = thrown 70 ∧ w' = w := by
  have c1 := h.c1
  obtain ⟨p, c, rfl⟩ := owns_slice h.out
  have d0 : decide (o.length < d) = true := by simpa using hdo
  clear h
  go_enter Try.func71, Try.ntmps71
  go_wp2
  exact ⟨rfl, rfl, rfl⟩

set_option maxRecDepth 20000 in
set_option maxHeartbeats 4000000 in
theorem itok_any (cv : Value) (A D : List Nat) (w : World) (h : Sm w base S B sv ov uv l lim a o) (hc : Codn w (KS S B ov) cv A D) (hA : A.length ≤ 320 ∧ D.length ≤ 320) :
    Calls Try.prog 60 #[.pointer (some ⟨S, 0, none⟩), cv] w (Ends base S B sv ov uv l lim w (InfToks A D l lim a o)) := by
  have H := Lib.hid h
  have Hc := Lib.hid hc
  obtain ⟨C, ta, td, rfl, -⟩ := hc
  clear h
  go_enter Try.func60, Try.ntmps60
  go_wp2_with fail
  go_loopw [4] (fun _ wr => ∃ (a1 : Nat) (o1 : List Nat) (ov1 : Value), Hid (Sm wr base S B sv ov1 uv l lim a1 o1 ∧ Fr S B ov w ov1 wr ∧ Codn wr (KS S B ov1) (.pointer (some ⟨C, 0, none⟩)) A D ∧ ∀ r, InfToks A D l lim a1 o1 r → InfToks A D l lim a o r))
    (fun _ wr => 8 * l.length - (intOf ((wr.cell? ⟨B, 1, none⟩).getD undef)).toNat)
  case atStart => exact ⟨a, o, ov, Lib.hid ⟨H.out, Fr.refl _ _ _ _, Hc.out, fun r h => h⟩⟩
  case round =>
    obtain ⟨a1, o1, ov1, HW⟩ := hrel
    obtain ⟨C', ta', td', e', hC, -, hta, htd⟩ := HW.out.2.2.1
    cases e'
    have c0 : wr.cell? ⟨C, 0, none⟩ = some ta' := by simp [World.cell?, hC]
    have Hta := Lib.hid hta
    clear hC hta htd
    go_wp2_with fail
    refine Calls.mono (isym_any ta' A wr HW.out.1 Hta.out) ?_
    rintro e w1 ⟨x, er, s, hsy, (⟨rfl, rfl, hs⟩ | ⟨her, rfl, hs⟩)⟩
    case inr =>
      have Hs := Lib.hid hs
      have Hsy := Lib.hid hsy
      clear hs hsy
      go_wp2
      exact ⟨rfl, .inr ⟨er, HW.out.2.2.2 _ (.no _ _ _ (.bad x s er Hsy.out her)), rfl, HW.out.2.1.throws Hs.out⟩⟩
    have hpos := hsy.pos
    have hin := hsy.in'
    have Hsy := Lib.hid hsy
    have HS := Lib.hid hs.1
    have HF := Lib.hid (HW.out.2.1.trans hs.2)
    have HC := Lib.hid (hs.2.codn HW.out.2.2.1)
    have HR := Lib.hid HW.out.2.2.2
    have hm0 : (intOf ((wr.cell? ⟨B, 1, none⟩).getD undef)).toNat = a1 := by rw [HW.out.1.rd.c1]; simp [intOf]
    have Hm0 := Lib.hid hm0
    clear hsy hs hm0 Hta c0 HW
    by_cases hx : x < 256
    · have d0 : decide ((x : Int) < 256) = true := by simp; omega
      have hw : IntKind.u8.wrap (x : Int) = (x : Int) := IntWalk.u8_in _ (by omega)
      go_wp2_with fail
      refine Calls.mono (icome_any x hx w1 HS.out) ?_
      rintro e w2 (⟨h1, rfl, ov2, hs⟩ | ⟨h1, rfl, hs⟩)
      · have Hs := Lib.hid hs
        clear hs
        go_wp2
        go_roundw
        case rel => exact ⟨a1 + s, o1 ++ [x], ov2, Lib.hid ⟨Hs.out.1, HF.out.trans Hs.out.2, Hs.out.2.codn HC.out, fun r hr => HR.out r (.more _ _ _ _ _ (.byte x s Hsy.out hx h1) hr)⟩⟩
        case measure => rw [Hs.out.1.rd.c1, Hm0.out]; simp [intOf]; omega
      · have Hs := Lib.hid hs
        clear hs
        go_wp2
        exact ⟨rfl, .inr ⟨81, HR.out _ (.no _ _ _ (.full x s Hsy.out hx h1)), rfl, HF.out.throws Hs.out⟩⟩
    have d0 : decide ((x : Int) < 256) = false := by simp; omega
    by_cases hx6 : x = 256
    · subst hx6
      go_wp2
      go_end0
      exact .inl ⟨a1 + s, o1, ov1, HR.out _ (.fin _ _ _ (.fin s Hsy.out)), rfl, HS.out, HF.out⟩
    have d1 : ((x : Int) == 256) = false := by simp; omega
    by_cases hfar : 285 < x
    · go_wp2_with fail
      refine Calls.mono (ilen_far x w1 hfar (by omega)) ?_
      rintro e w2 ⟨rfl, rfl⟩
      go_wp2
      exact ⟨rfl, .inr ⟨80, HR.out _ (.no _ _ _ (.rep x s _ Hsy.out (by omega) (.far hfar))), rfl, HF.out.turns⟩⟩
    go_wp2_with fail
    refine Calls.mono (ilen_any x w1 (by omega) (by omega) HS.out) ?_
    rintro e w2 (⟨h1, rfl, hs⟩ | ⟨h1, rfl, hs⟩)
    case inr =>
      have Hs := Lib.hid hs
      clear hs
      go_wp2
      exact ⟨rfl, .inr ⟨50, HR.out _ (.no _ _ _ (.rep x s _ Hsy.out (by omega) (.few (by omega) h1))), rfl, HF.out.throws Hs.out⟩⟩
    have hs2 := hs
    obtain ⟨C', ta', td', e', hC, -, -, htd⟩ := hs.2.codn HC.out
    cases e'
    have c1 : w2.cell? ⟨C, 1, none⟩ = some td' := by simp [World.cell?, hC]
    have Htd := Lib.hid htd
    have HS2 := Lib.hid hs.1
    have HF2 := Lib.hid (HF.out.trans hs.2)
    have HC2 := Lib.hid (hs.2.codn HC.out)
    have hnb : nb l (a1 + s) (lnBits x) < 16777216 := Nat.lt_of_lt_of_le (nb_lt _ _ _) (Nat.pow_le_pow_right (n := 2) (j := 24) (by decide) (lnBits_le x (by omega)))
    have hlb : lnBase x ≤ 1000 := lnBase_le x (by omega)
    obtain ⟨n, hn⟩ : ∃ n, lnBase x + nb l (a1 + s) (lnBits x) = n := ⟨_, rfl⟩
    rw [hn]
    have Hn := Lib.hid hn
    have hnl : n ≤ 1000000 := lnSum_le l (a1 + s) x (by omega) (by omega) n hn
    clear hC htd hs hs2 HS HF HC hn hnb hlb
    go_wp2_with fail
    refine Calls.mono (isym_any td' D w2 HS2.out Htd.out) ?_
    rintro e w3 ⟨y, er, t, hsy, (⟨rfl, rfl, hs⟩ | ⟨her, rfl, hs⟩)⟩
    case inr =>
      have Hs := Lib.hid hs
      have Hsy2 := Lib.hid hsy
      clear hs hsy
      go_wp2
      exact ⟨rfl, .inr ⟨er, HR.out _ (.no _ _ _ (.rep x s _ Hsy.out (by omega) (.bad (by omega) h1 y t er Hsy2.out her))), rfl, HF2.out.throws Hs.out⟩⟩
    have hpos2 := hsy.pos
    have Hsy2 := Lib.hid hsy
    have HS3 := Lib.hid hs.1
    have HF3 := Lib.hid (HF2.out.trans hs.2)
    have HC3 := Lib.hid (hs.2.codn HC2.out)
    clear hs hsy HS2 HF2 HC2 Htd c1
    by_cases hy : 29 < y
    · go_wp2_with fail
      refine Calls.mono (idist_far y w3 hy (by omega)) ?_
      rintro e w4 ⟨rfl, rfl⟩
      go_wp2
      exact ⟨rfl, .inr ⟨80, HR.out _ (.no _ _ _ (.rep x s _ Hsy.out (by omega) (.wide (by omega) h1 y t Hsy2.out hy))), rfl, HF3.out.turns⟩⟩
    go_wp2_with fail
    refine Calls.mono (idist_any y w3 (by omega) HS3.out) ?_
    rintro e w4 (⟨h2, rfl, hs⟩ | ⟨h2, rfl, hs⟩)
    case inr =>
      have Hs := Lib.hid hs
      clear hs
      go_wp2
      exact ⟨rfl, .inr ⟨50, HR.out _ (.no _ _ _ (.rep x s _ Hsy.out (by omega) (.few2 (by omega) h1 y t Hsy2.out (by omega) h2))), rfl, HF3.out.throws Hs.out⟩⟩
    have HS4 := Lib.hid hs.1
    have HF4 := Lib.hid (HF3.out.trans hs.2)
    have HC4 := Lib.hid (hs.2.codn HC3.out)
    have hd1 : 1 ≤ dsBase y := by unfold dsBase; omega
    obtain ⟨d, hd⟩ : ∃ d, dsBase y + nb l (a1 + s + lnBits x + t) (dsBits y) = d := ⟨_, rfl⟩
    rw [hd]
    have Hd := Lib.hid hd
    have hd1' : 1 ≤ d := by omega
    clear hs HS3 HF3 HC3 hd hd1
    by_cases hdo : o1.length < d
    · go_wp2_with fail
      refine Calls.mono (irep_far n d w4 HS4.out hdo) ?_
      rintro e w5 ⟨rfl, rfl⟩
      go_wp2
      exact ⟨rfl, .inr ⟨70, HR.out _ (.no _ _ _ (.rep x s _ Hsy.out (by omega) (.dist (by omega) h1 y t Hsy2.out (by omega) h2 (by rw [Hd.out]; exact hdo)))), rfl, HF4.out.turns⟩⟩
    go_wp2_with fail
    refine Calls.mono (irep_any n d w4 HS4.out hd1' (by omega) hnl) ?_
    rintro e w5 (⟨h3, rfl, ov5, hs⟩ | ⟨h3, rfl, hs⟩)
    · have Hs := Lib.hid hs
      clear hs
      go_wp2
      go_roundw
      case rel =>
        refine ⟨_, _, ov5, Lib.hid ⟨Hs.out.1, HF4.out.trans Hs.out.2, Hs.out.2.codn HC4.out, fun r hr => HR.out r (.more _ _ _ _ _ (.rep x s _ Hsy.out (by omega) (.done (by omega) h1 y t Hsy2.out (by omega) h2 (by rw [Hd.out]; omega) (by rw [Hn.out]; exact h3))) ?_)⟩⟩
        rw [Hd.out, Hn.out]
        exact hr
      case measure => rw [Hs.out.1.rd.c1, Hm0.out]; simp [intOf]; omega
    · have Hs := Lib.hid hs
      clear hs
      go_wp2
      exact ⟨rfl, .inr ⟨81, HR.out _ (.no _ _ _ (.rep x s _ Hsy.out (by omega) (.over (by omega) h1 y t Hsy2.out (by omega) h2 (by rw [Hd.out]; omega) (by rw [Hn.out]; exact h3)))), rfl, HF4.out.throws Hs.out⟩⟩
end

end Go.Proofs.Ytajidlihepjegaa
