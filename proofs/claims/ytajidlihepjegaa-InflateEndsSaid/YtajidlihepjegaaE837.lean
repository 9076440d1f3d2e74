/- inflate: several: one more length that is told, and how many times. -/
import Derived.Test.YtajidlihepjegaaE836
namespace Go.Proofs.Ytajidlihepjegaa
open Go.RowKit Go.Maps

/-- What a symbol x of the lengths' code tells, behind ls: c times and the number of k bits more, the length v. -/
abbrev SvC (x k c v : Nat) (ls : List Nat) : Prop :=
  x = 16 ∧ 0 < ls.length ∧ k = 2 ∧ c = 3 ∧ v = ls.getD (ls.length - 1) 0 ∨ x = 17 ∧ k = 3 ∧ c = 3 ∧ v = 0 ∨ x = 18 ∧ k = 7 ∧ c = 11 ∧ v = 0 ∨ x < 16 ∧ k = 0 ∧ c = 1 ∧ v = x

theorem getD_last {ls : List Nat} {j : Nat} (h : ls.length = j + 1) : ls[j]'(by omega) = ls.getD (ls.length - 1) 0 := by
  have e : ls.length - 1 = j := by omega
  rw [e, List.getD_eq_getElem?_getD, List.getElem?_eq_getElem (by omega)]
  rfl

section
variable {base S B : Nat} {sv ov uv : Value} {l : List Nat} {lim a : Nat} {o : List Nat}

/-- What several answers. -/
def SevEnds (base S B : Nat) (sv ov uv : Value) (l : List Nat) (lim a : Nat) (o C ls : List Nat) (w : World) (e : Ending) (w' : World) : Prop :=
  (∃ (x s k c v : Nat), Sy C l a x 0 s ∧ SvC x k c v ls ∧ a + s + k ≤ 8 * l.length ∧ e = .returned (.tuple #[.int .u8 (v : Int), .int .i64 ((c + nb l (a + s) k : Nat) : Int)]) ∧ Sm w' base S B sv ov uv l lim (a + s + k) o ∧ Fr S B ov w ov w') ∨
  (∃ er, (∀ n, InfSv C l n a ls (.no er)) ∧ e = thrown er ∧ Turns (KS S B ov) w w')

set_option maxRecDepth 20000 in
set_option maxHeartbeats 4000000 in
theorem isev_any (tv av : Value) (C ls : List Nat) (w : World) (h : Sm w base S B sv ov uv l lim a o) (ht : TblV w (KS S B ov) tv C) (hC : C.length = 19) (ha : Rw8 w av ls) (hap : ∀ k, av.ownBlock = some k → ¬ KS S B ov k) (hls : ls.length ≤ 1000) :
    Calls Try.prog 84 #[.pointer (some ⟨S, 0, none⟩), tv, av] w (SevEnds base S B sv ov uv l lim a o C ls w) := by
  have H := Lib.hid h
  have Ht := Lib.hid ht
  have Ha := Lib.hid ha
  have Hap := Lib.hid hap
  obtain ⟨p, c, rfl, hlc, -, hac⟩ := ha.cells
  have Hac := Lib.hid hac
  obtain ⟨T, M, n, L, F, rfl, -⟩ := ht
  clear h ha hap hac
  go_enter Try.func84, Try.ntmps84
  go_wp2_with fail
  refine Calls.mono (isym_any _ C w H.out Ht.out) ?_
  rintro e w1 ⟨x, er, s, hsy, (⟨rfl, rfl, hs⟩ | ⟨her, rfl, hs⟩)⟩
  case inr =>
    have Hs := Lib.hid hs
    have Hsy := Lib.hid hsy
    clear hs hsy
    go_wp2
    exact ⟨rfl, .inr ⟨er, fun _ => .bad x s er Hsy.out her, rfl, Hs.out⟩⟩
  have hpos := hsy.pos
  have Hsy := Lib.hid hsy
  have H1 := Lib.hid hs
  have Ha1 := Lib.hid (Ha.out.turns hs.2.turns (fun k hk e => Hap.out k hk e))
  clear hs hsy Ht H Ha
  by_cases h16 : x = 16
  · subst h16
    by_cases hn : ls.length = 0
    · have d0 : (((ls.length : Nat) : Int) == 0) = true := by rw [beq_iff_eq]; omega
      go_wp2
      exact ⟨rfl, .inr ⟨80, fun _ => .first s Hsy.out hn, rfl, H1.out.2.turns⟩⟩
    have d0 : (((ls.length : Nat) : Int) == 0) = false := by rw [beq_eq_false_iff_ne]; omega
    have hd := Below.drew (Below.refl w1.heap.size w1)
    obtain ⟨p', c', e', -, -, hac'⟩ := Rw8.cells Ha1.out
    cases e'
    obtain ⟨j, hj⟩ : ∃ j, ls.length = j + 1 := ⟨ls.length - 1, by omega⟩
    obtain ⟨g, off, rfl, hg⟩ := hac' j (by omega)
    have hv : ls[j]'(by omega) = ls.getD (ls.length - 1) 0 := getD_last hj
    rw [hv] at hg
    obtain ⟨v, hv2⟩ : ∃ v, ls.getD (ls.length - 1) 0 = v := ⟨_, rfl⟩
    rw [hv2] at hg
    have Hv := Lib.hid hv2
    have hw1 : IntKind.i64.wrap (((ls.length : Nat) : Int) - 1) = (j : Int) := by rw [IntWalk.i64_in _ (by omega)]; omega
    have j0 : (0 : Int) ≤ (j : Int) := by omega
    have j1 : (j : Int) < ((ls.length : Nat) : Int) := by omega
    have hgk : ¬ KS S B ov g := Hap.out g rfl
    have Hj := Lib.hid hj
    clear hv hv2 hac' hj
    by_cases hfit : a + s + 2 ≤ 8 * l.length
    · obtain ⟨z, hz⟩ : ∃ z, nb l (a + s) 2 = z := ⟨_, rfl⟩
      have hz4 : z < 4 := by rw [← hz]; exact nb_lt _ _ _
      have Hz := Lib.hid hz
      have hw2 : IntKind.i64.wrap (3 + (z : Int)) = ((3 + z : Nat) : Int) := by rw [IntWalk.i64_in _ (by omega)]; omega
      clear hz
      go_upto_region 7 with (fail)
      go_region_with (go_at_call 55; refine (inum_ok 2 (by decide) _ H1.out.1.drew.1 hfit).mono ?_; rintro e w2 ⟨rfl, hs⟩; rw [Hz.out]; have hg2 := (H1.out.1.drew.2.trans hs.2).turns.cell hg hgk; have Hs := Lib.hid hs; clear hs)
      all_goals go_wp2
      all_goals go_ret2
      all_goals exact .inl ⟨16, s, 2, 3, v, Hsy.out, .inl ⟨rfl, by omega, rfl, rfl, Hv.out.symm⟩, hfit, by rw [Hz.out]; rfl, Hs.out.1, H1.out.2.trans (H1.out.1.drew.2.trans Hs.out.2)⟩
    · go_upto_region 7 with (fail)
      refine wp_region_any (by kernel_rfl) ?_
      change wpAny _ _ _ _ _ _ _ (World.drew _)
      refine wpAny_take (i := 0) (v := ?_) rfl (by kernel_rfl) (by kernel_rfl) (by kernel_rfl) (fun _ _ _ h => h) (Or.inl ⟨by rfl, ?hy⟩) ?_
      case hy => (intro w'; go_simp; try with_reducible rfl)
      refine wpAny_take (i := 1) (v := ?_) rfl (by kernel_rfl) (by kernel_rfl) (by kernel_rfl) (fun _ _ _ h => h) (Or.inl ⟨by rfl, ?hy⟩) ?_
      case hy => (intro w'; go_simp; try with_reducible rfl)
      refine wpAny_take (i := 2) (v := ?_) rfl (by kernel_rfl) (by kernel_rfl) (by kernel_rfl) (fun _ _ _ h => h) (Or.inl ⟨by rfl, ?hy⟩) ?_
      case hy => (intro w'; go_simp; try with_reducible rfl)
      refine wpAny_take (i := 3) (v := ?_) rfl (by kernel_rfl) (by kernel_rfl) (by kernel_rfl) (fun _ _ _ h => h) (Or.inl ⟨by rfl, ?hy⟩) ?_
      case hy => (intro w'; go_simp; try with_reducible rfl)
      refine wpAny_take (i := 4) (v := ?_) rfl (by kernel_rfl) (by kernel_rfl) (by kernel_rfl) (fun _ _ _ h => h) (Or.inl ⟨by rfl, ?hy⟩) ?_
      case hy => (intro w'; go_simp; try with_reducible rfl)
      refine wpAny_take (i := 6) (v := ?_) rfl (by kernel_rfl) (by kernel_rfl) (by kernel_rfl) (fun _ _ _ h => h) (Or.inl ⟨by rfl, ?hy⟩) ?_
      case hy => (intro w'; go_simp; try with_reducible rfl)
      refine wpAny_ready (rs := [5, 7]) (by kernel_rfl) (by simp) ?_
      refine AllReady.cons rfl (fun K hK => ?_) (AllReady.cons rfl (fun K hK => ?_) AllReady.nil)
      · go_simp
        refine hK _ _ ?_
        clear hK K
        refine wpAny_ready (rs := [7]) (by kernel_rfl) (by simp) ?_
        refine AllReady.cons rfl (fun K hK => ?_) AllReady.nil
        go_simp
        refine (inum_few 2 (by decide) _ H1.out.1.drew.1 (by omega)).mono ?_
        rintro e w2 ⟨rfl, hs⟩
        exact ⟨rfl, .inr ⟨50, fun _ => .few 16 s 2 3 v Hsy.out (.inl ⟨rfl, by omega, rfl, rfl, Hv.out.symm⟩) (by omega), rfl, H1.out.2.throws (H1.out.1.drew.2.throws hs)⟩⟩
      · go_simp
        refine (inum_few 2 (by decide) _ H1.out.1.drew.1 (by omega)).mono ?_
        rintro e w2 ⟨rfl, hs⟩
        exact ⟨rfl, .inr ⟨50, fun _ => .few 16 s 2 3 v Hsy.out (.inl ⟨rfl, by omega, rfl, rfl, Hv.out.symm⟩) (by omega), rfl, H1.out.2.throws (H1.out.1.drew.2.throws hs)⟩⟩
  have d16 : ((x : Int) == 16) = false := by rw [beq_eq_false_iff_ne]; omega
  by_cases h17 : x = 17
  · subst h17
    go_wp2_with fail
    refine Calls.mono (inum_any 3 (by decide) w1 H1.out.1) ?_
    have hz128 : nb l (a + s) 3 < 128 := Nat.lt_of_lt_of_le (nb_lt _ _ _) (by decide)
    obtain ⟨z, hz⟩ : ∃ z, nb l (a + s) 3 = z := ⟨_, rfl⟩
    rw [hz] at hz128 ⊢
    have Hz := Lib.hid hz
    have hw2 : IntKind.i64.wrap (3 + (z : Int)) = ((3 + z : Nat) : Int) := by rw [IntWalk.i64_in _ (by omega)]; omega
    clear hz
    rintro e w2 (⟨h1, rfl, hs⟩ | ⟨h1, rfl, hs⟩)
    · have Hs := Lib.hid hs
      clear hs
      go_wp2
      go_ret2
      exact .inl ⟨17, s, 3, 3, 0, Hsy.out, .inr (.inl ⟨rfl, rfl, rfl, rfl⟩), h1, by rw [Hz.out]; rfl, Hs.out.1, H1.out.2.trans Hs.out.2⟩
    · have Hs := Lib.hid hs
      clear hs
      go_wp2
      exact ⟨rfl, .inr ⟨50, fun _ => .few 17 s 3 3 0 Hsy.out (.inr (.inl ⟨rfl, rfl, rfl, rfl⟩)) h1, rfl, H1.out.2.throws Hs.out⟩⟩
  have d17 : ((x : Int) == 17) = false := by rw [beq_eq_false_iff_ne]; omega
  by_cases h18 : x = 18
  · subst h18
    go_wp2_with fail
    refine Calls.mono (inum_any 7 (by decide) w1 H1.out.1) ?_
    have hz128 : nb l (a + s) 7 < 128 := Nat.lt_of_lt_of_le (nb_lt _ _ _) (by decide)
    obtain ⟨z, hz⟩ : ∃ z, nb l (a + s) 7 = z := ⟨_, rfl⟩
    rw [hz] at hz128 ⊢
    have Hz := Lib.hid hz
    have hw2 : IntKind.i64.wrap (11 + (z : Int)) = ((11 + z : Nat) : Int) := by rw [IntWalk.i64_in _ (by omega)]; omega
    clear hz
    rintro e w2 (⟨h1, rfl, hs⟩ | ⟨h1, rfl, hs⟩)
    · have Hs := Lib.hid hs
      clear hs
      go_wp2
      go_ret2
      exact .inl ⟨18, s, 7, 11, 0, Hsy.out, .inr (.inr (.inl ⟨rfl, rfl, rfl, rfl⟩)), h1, by rw [Hz.out]; rfl, Hs.out.1, H1.out.2.trans Hs.out.2⟩
    · have Hs := Lib.hid hs
      clear hs
      go_wp2
      exact ⟨rfl, .inr ⟨50, fun _ => .few 18 s 7 11 0 Hsy.out (.inr (.inr (.inl ⟨rfl, rfl, rfl, rfl⟩))) h1, rfl, H1.out.2.throws Hs.out⟩⟩
  have d3 : ((x : Int) == 18) = false := by rw [beq_eq_false_iff_ne]; omega
  have hw : IntKind.u8.wrap (x : Int) = (x : Int) := IntWalk.u8_in _ (by omega)
  go_wp2
  go_ret2
  refine .inl ⟨x, s, 0, 1, x, Hsy.out, .inr (.inr (.inr ⟨by omega, rfl, rfl, rfl⟩)), H1.out.1.rd.pos, by rw [nb_zero]; rfl, H1.out⟩
end

end Go.Proofs.Ytajidlihepjegaa
