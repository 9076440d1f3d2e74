/- RegionForm answers true: a set of pixels has one list. -/
import Derived.Test.YtjgbelljijhfcaaWakes3
namespace Go.Proofs.Ytjgbelljijhfcaa
open Go.RowKit

theorem min_and_none (a b : List Rc) : formL (fun p q => p && q) (formL (fun p q => p && !q) a b) (formL (fun p q => p && q) a b) = [] :=
  form_none rfl (fun x y => by rw [pix_form _ rfl, pix_form _ rfl]; cases pix a x y <;> cases pix b x y <;> rfl)
theorem or_min_and (a b : List Rc) : formL (fun p q => p || q) (formL (fun p q => p && !q) a b) (formL (fun p q => p && q) a b) = formL (fun p _ => p) a [] :=
  form_unique rfl rfl (fun x y => by rw [pix_form _ rfl, pix_form _ rfl]; cases pix a x y <;> cases pix b x y <;> rfl)
theorem or_comm_form (a b : List Rc) : formL (fun p q => p || q) a b = formL (fun p q => p || q) b a :=
  form_unique rfl rfl (fun _ _ => Bool.or_comm _ _)
theorem and_comm_form (a b : List Rc) : formL (fun p q => p && q) a b = formL (fun p q => p && q) b a :=
  form_unique rfl rfl (fun _ _ => Bool.and_comm _ _)
theorem areas_or_and (a b : List Rc) : areaS (formL (fun p _ => p) (formL (fun p q => p || q) a b) []) + areaS (formL (fun p _ => p) (formL (fun p q => p && q) a b) []) = areaS (formL (fun p _ => p) a []) + areaS (formL (fun p _ => p) b []) :=
  area_adds rfl rfl rfl rfl (fun x y => by rw [pix_form _ rfl, pix_form _ rfl]; cases pix a x y <;> cases pix b x y <;> rfl)
theorem areas_min_and (a b : List Rc) : areaS (formL (fun p _ => p) (formL (fun p q => p && !q) a b) []) + areaS (formL (fun p _ => p) (formL (fun p q => p && q) a b) []) = areaS (formL (fun p _ => p) (formL (fun p _ => p) a []) []) := by
  have h := area_adds (f1 := fun p _ => p) (f2 := fun p _ => p) (f3 := fun p _ => p) (f4 := fun _ _ => false) rfl rfl rfl rfl (a1 := formL (fun p q => p && !q) a b) (b1 := []) (a2 := formL (fun p q => p && q) a b) (b2 := []) (a3 := formL (fun p _ => p) a []) (b3 := []) (a4 := []) (b4 := []) (fun x y => by rw [pix_form _ rfl, pix_form _ rfl, pix_form _ rfl]; cases pix a x y <;> cases pix b x y <;> rfl)
  rw [form_none (mf := fun _ _ => false) rfl (fun _ _ => rfl)] at h
  rw [h]; simp [areaS]

set_option maxRecDepth 100000 in
set_option maxHeartbeats 8000000 in
theorem rform_any (va : Value) (a : List Rc) (vb : Value) (b : List Rc) (x y : Int) (w : World) (ha : Rw w va a) (hfa : ∀ r ∈ a, Fit r) (hb : Rw w vb b) (hfb : ∀ r ∈ b, Fit r) :
    Makes Try.prog 5 #[va, vb, .int .i64 x, .int .i64 y] w (.bool true) := by
  unfold Makes
  have S0 : St w w [(va, a), (vb, b)] := ⟨Below.refl _ _, fun v xs h => by
    simp only [List.mem_cons, Prod.mk.injEq, List.not_mem_nil, or_false] at h
    rcases h with ⟨rfl, rfl⟩ | ⟨rfl, rfl⟩
    · exact ⟨ha, hfa⟩
    · exact ⟨hb, hfb⟩⟩
  obtain ⟨⟨pa, ca, rfl, -, -, -⟩, -⟩ := ha
  obtain ⟨⟨pb, cb, rfl, -, -, -⟩, -⟩ := hb
  clear hfa hfb
  have hne := neq_rc
  go_enter Try.func5, Try.ntmps5
  have early : ∀ {R : Ending → World → Prop}, (∀ e w', e = .returned (.bool true) ∧ Below w.heap.size w w' → R e w') → Calls Try.prog 8 #[] w R := fun h => Calls.mono (wakes_any w) h
  by_cases h1 : 24 < a.length
  · have d1 : decide ((24 : Int) < (a.length : Int)) = true := by simp; omega
    go_wp2_with fail
    refine early ?_
    rintro e w' ⟨rfl, hbk⟩
    go_wp2
    go_ret
    exact ⟨rfl, hbk⟩
  have d1 : decide ((24 : Int) < (a.length : Int)) = false := by simp; omega
  by_cases h2 : 24 < b.length
  · have d2 : decide ((24 : Int) < (b.length : Int)) = true := by simp; omega
    go_wp2_with fail
    refine early ?_
    rintro e w' ⟨rfl, hbk⟩
    go_wp2
    go_ret
    exact ⟨rfl, hbk⟩
  have d2 : decide ((24 : Int) < (b.length : Int)) = false := by simp; omega
  have ea : a.length ≤ 24 := by omega
  have eb : b.length ≤ 24 := by omega
  have qf := form_small (mf := fun p _ => p) ea (show ([] : List Rc).length ≤ 24 by simp)
  have qu := form_small (mf := fun p q => p || q) ea eb
  have qo := form_small (mf := fun p q => p && q) ea eb
  have qm := form_small (mf := fun p q => p && !q) ea eb
  obtain ⟨B, hB⟩ : ∃ B, eqRs a (formL (fun p _ => p) a []) = B := ⟨_, rfl⟩
  obtain ⟨P, hP⟩ : ∃ P, pix a x y = P := ⟨_, rfl⟩
  obtain ⟨Q, hQ⟩ : ∃ Q, pix b x y = Q := ⟨_, rfl⟩
  obtain ⟨Au, hAu⟩ : ∃ A, areaS (formL (fun p _ => p) (formL (fun p q => p || q) a b) []) = A := ⟨_, rfl⟩
  obtain ⟨Ao, hAo⟩ : ∃ A, areaS (formL (fun p _ => p) (formL (fun p q => p && q) a b) []) = A := ⟨_, rfl⟩
  obtain ⟨Am, hAm⟩ : ∃ A, areaS (formL (fun p _ => p) (formL (fun p q => p && !q) a b) []) = A := ⟨_, rfl⟩
  obtain ⟨Aa, hAa⟩ : ∃ A, areaS (formL (fun p _ => p) a []) = A := ⟨_, rfl⟩
  obtain ⟨Ab, hAb⟩ : ∃ A, areaS (formL (fun p _ => p) b []) = A := ⟨_, rfl⟩
  obtain ⟨Af, hAf⟩ : ∃ A, areaS (formL (fun p _ => p) (formL (fun p _ => p) a []) []) = A := ⟨_, rfl⟩
  have s1 := areas_or_and a b
  have s2 := areas_min_and a b
  rw [hAu, hAo, hAa, hAb] at s1
  rw [hAm, hAo, hAf] at s2
  have b1 := area_bound (fun p _ => p) rfl (formL (fun p q => p || q) a b) []
  have b2 := area_bound (fun p _ => p) rfl (formL (fun p q => p && q) a b) []
  have b3 := area_bound (fun p _ => p) rfl (formL (fun p q => p && !q) a b) []
  rw [hAu] at b1
  rw [hAo] at b2
  rw [hAm] at b3
  have z1 : IntKind.i64.wrap (Au + Ao) = Au + Ao := IntWalk.i64_in _ (by omega)
  have z2 : IntKind.i64.wrap (Aa + Ab) = Aa + Ab := IntWalk.i64_in _ (by omega)
  have z3 : IntKind.i64.wrap (Am + Ao) = Am + Ao := IntWalk.i64_in _ (by omega)
  have z4 : ((Au + Ao : Int) != Aa + Ab) = false := by simp [s1]
  have z5 : ((Am + Ao : Int) != Af) = false := by simp [s2]
  have hsame : decide (bandsOf (stripsL (fun p q => p != q) a (formL (fun p _ => p) a [])) = []) = true := decide_eq_true ((bands_none rfl).2 (fun x y => by rw [pix_ofform]; simp))
  have hin := fun h : pix a x y = true => bounds_has h
  have Hsame := Lib.hid hsame
  have Hin := Lib.hid hin
  clear b1 b2 b3 s1 s2 hsame hin
  go_wp2_with fail
  refine Calls.mono (own_st S0 (xs := a) (by repeat (first | exact List.Mem.head _ | apply List.Mem.tail)) (by omega)) ?_
  rintro e w1 ⟨u1, rfl, S1⟩
  go_wp2_with fail
  refine Calls.mono (of_st S1 (a := a) (by repeat (first | exact List.Mem.head _ | apply List.Mem.tail)) (by omega)) ?_
  rintro e w2 ⟨p2, c2, rfl, S2⟩
  go_wp2_with fail
  refine Calls.mono (own_st S2 (xs := a) (by repeat (first | exact List.Mem.head _ | apply List.Mem.tail)) (by omega)) ?_
  rintro e w3 ⟨u3, rfl, S3⟩
  go_wp2_with fail
  refine Calls.mono (own_st S3 (xs := b) (by repeat (first | exact List.Mem.head _ | apply List.Mem.tail)) (by omega)) ?_
  rintro e w4 ⟨u4, rfl, S4⟩
  go_wp2_with fail
  refine Calls.mono (or_st S4 (a := a) (b := b) (by repeat (first | exact List.Mem.head _ | apply List.Mem.tail)) (by repeat (first | exact List.Mem.head _ | apply List.Mem.tail)) (by omega)) ?_
  rintro e w5 ⟨p5, c5, rfl, S5⟩
  go_wp2_with fail
  refine Calls.mono (own_st S5 (xs := a) (by repeat (first | exact List.Mem.head _ | apply List.Mem.tail)) (by omega)) ?_
  rintro e w6 ⟨u6, rfl, S6⟩
  go_wp2_with fail
  refine Calls.mono (own_st S6 (xs := b) (by repeat (first | exact List.Mem.head _ | apply List.Mem.tail)) (by omega)) ?_
  rintro e w7 ⟨u7, rfl, S7⟩
  go_wp2_with fail
  refine Calls.mono (minus_st S7 (a := a) (b := b) (by repeat (first | exact List.Mem.head _ | apply List.Mem.tail)) (by repeat (first | exact List.Mem.head _ | apply List.Mem.tail)) (by omega)) ?_
  rintro e w8 ⟨p8, c8, rfl, S8⟩
  go_wp2_with fail
  refine Calls.mono (own_st S8 (xs := a) (by repeat (first | exact List.Mem.head _ | apply List.Mem.tail)) (by omega)) ?_
  rintro e w9 ⟨u9, rfl, S9⟩
  go_wp2_with fail
  refine Calls.mono (own_st S9 (xs := b) (by repeat (first | exact List.Mem.head _ | apply List.Mem.tail)) (by omega)) ?_
  rintro e w10 ⟨u10, rfl, S10⟩
  go_wp2_with fail
  refine Calls.mono (and_st S10 (a := a) (b := b) (by repeat (first | exact List.Mem.head _ | apply List.Mem.tail)) (by repeat (first | exact List.Mem.head _ | apply List.Mem.tail)) (by omega)) ?_
  rintro e w11 ⟨p11, c11, rfl, S11⟩
  go_wp2_with fail
  refine Calls.mono (form_st S11 (fun p _ => p) rfl (a := a) (b := []) (by repeat (first | exact List.Mem.head _ | apply List.Mem.tail))) ?_
  rintro e w12 ⟨rfl, S12⟩
  go_wp2_with fail
  refine Calls.mono (form_st S12 (fun p q => p || q) rfl (a := a) (b := b) (by repeat (first | exact List.Mem.head _ | apply List.Mem.tail))) ?_
  rintro e w13 ⟨rfl, S13⟩
  go_wp2_with fail
  refine Calls.mono (form_st S13 (fun p q => p && !q) rfl (a := a) (b := b) (by repeat (first | exact List.Mem.head _ | apply List.Mem.tail))) ?_
  rintro e w14 ⟨rfl, S14⟩
  go_wp2_with fail
  refine Calls.mono (form_st S14 (fun p q => p && q) rfl (a := a) (b := b) (by repeat (first | exact List.Mem.head _ | apply List.Mem.tail))) ?_
  rintro e w15 ⟨rfl, S15⟩
  go_wp2_with fail
  refine Calls.mono (own_st S15 (xs := (formL (fun p _ => p) a [])) (by repeat (first | exact List.Mem.head _ | apply List.Mem.tail)) (by omega)) ?_
  rintro e w16 ⟨u16, rfl, S16⟩
  go_wp2_with fail
  refine Calls.mono (of_st S16 (a := (formL (fun p _ => p) a [])) (by repeat (first | exact List.Mem.head _ | apply List.Mem.tail)) (by omega)) ?_
  rintro e w17 ⟨p17, c17, rfl, S17⟩
  go_wp2_with fail
  refine Calls.mono (lawRects_st S17 (a := (formL (fun p _ => p) (formL (fun p _ => p) a []) [])) (b := (formL (fun p _ => p) a [])) (by repeat (first | exact List.Mem.head _ | apply List.Mem.tail)) (by repeat (first | exact List.Mem.head _ | apply List.Mem.tail)) (t := true) (eqRs_iff.2 (shift_again a))) ?_
  rintro e w18 ⟨rfl, S18⟩
  go_wp2_with fail
  refine Calls.mono (is_st S18 (a := (formL (fun p q => p || q) a b)) (by repeat (first | exact List.Mem.head _ | apply List.Mem.tail)) (t := true) (isL_form _ rfl _ _)) ?_
  rintro e w19 ⟨rfl, S19⟩
  go_wp2_with fail
  refine Calls.mono (own_st S19 (xs := a) (by repeat (first | exact List.Mem.head _ | apply List.Mem.tail)) (by omega)) ?_
  rintro e w20 ⟨u20, rfl, S20⟩
  go_wp2_with fail
  refine Calls.mono (is_st S20 (a := a) (by repeat (first | exact List.Mem.head _ | apply List.Mem.tail)) (t := B) ((isL_eq a).trans hB)) ?_
  rintro e w21 ⟨rfl, S21⟩
  go_wp2_with fail
  refine Calls.mono (lawRects_st S21 (a := a) (b := (formL (fun p _ => p) a [])) (by repeat (first | exact List.Mem.head _ | apply List.Mem.tail)) (by repeat (first | exact List.Mem.head _ | apply List.Mem.tail)) (t := B) (hB)) ?_
  rintro e w22 ⟨rfl, S22⟩
  go_wp2_with fail
  refine Calls.mono (and_st S22 (a := (formL (fun p q => p && !q) a b)) (b := (formL (fun p q => p && q) a b)) (by repeat (first | exact List.Mem.head _ | apply List.Mem.tail)) (by repeat (first | exact List.Mem.head _ | apply List.Mem.tail)) (by omega)) ?_
  rintro e w23 ⟨p23, c23, rfl, S23⟩
  rw [min_and_none a b] at S23 ⊢
  go_wp2_with fail
  refine Calls.mono (or_st S23 (a := (formL (fun p q => p && !q) a b)) (b := (formL (fun p q => p && q) a b)) (by repeat (first | exact List.Mem.head _ | apply List.Mem.tail)) (by repeat (first | exact List.Mem.head _ | apply List.Mem.tail)) (by omega)) ?_
  rintro e w24 ⟨p24, c24, rfl, S24⟩
  go_wp2_with fail
  refine Calls.mono (lawRects_st S24 (a := (formL (fun p q => p || q) (formL (fun p q => p && !q) a b) (formL (fun p q => p && q) a b))) (b := (formL (fun p _ => p) a [])) (by repeat (first | exact List.Mem.head _ | apply List.Mem.tail)) (by repeat (first | exact List.Mem.head _ | apply List.Mem.tail)) (t := true) (eqRs_iff.2 (or_min_and a b))) ?_
  rintro e w25 ⟨rfl, S25⟩
  go_wp2_with fail
  refine Calls.mono (own_st S25 (xs := b) (by repeat (first | exact List.Mem.head _ | apply List.Mem.tail)) (by omega)) ?_
  rintro e w26 ⟨u26, rfl, S26⟩
  go_wp2_with fail
  refine Calls.mono (own_st S26 (xs := a) (by repeat (first | exact List.Mem.head _ | apply List.Mem.tail)) (by omega)) ?_
  rintro e w27 ⟨u27, rfl, S27⟩
  go_wp2_with fail
  refine Calls.mono (or_st S27 (a := b) (b := a) (by repeat (first | exact List.Mem.head _ | apply List.Mem.tail)) (by repeat (first | exact List.Mem.head _ | apply List.Mem.tail)) (by omega)) ?_
  rintro e w28 ⟨p28, c28, rfl, S28⟩
  go_wp2_with fail
  refine Calls.mono (lawRects_st S28 (a := (formL (fun p q => p || q) b a)) (b := (formL (fun p q => p || q) a b)) (by repeat (first | exact List.Mem.head _ | apply List.Mem.tail)) (by repeat (first | exact List.Mem.head _ | apply List.Mem.tail)) (t := true) (eqRs_iff.2 (or_comm_form b a))) ?_
  rintro e w29 ⟨rfl, S29⟩
  go_wp2_with fail
  refine Calls.mono (own_st S29 (xs := b) (by repeat (first | exact List.Mem.head _ | apply List.Mem.tail)) (by omega)) ?_
  rintro e w30 ⟨u30, rfl, S30⟩
  go_wp2_with fail
  refine Calls.mono (own_st S30 (xs := a) (by repeat (first | exact List.Mem.head _ | apply List.Mem.tail)) (by omega)) ?_
  rintro e w31 ⟨u31, rfl, S31⟩
  go_wp2_with fail
  refine Calls.mono (and_st S31 (a := b) (b := a) (by repeat (first | exact List.Mem.head _ | apply List.Mem.tail)) (by repeat (first | exact List.Mem.head _ | apply List.Mem.tail)) (by omega)) ?_
  rintro e w32 ⟨p32, c32, rfl, S32⟩
  go_wp2_with fail
  refine Calls.mono (lawRects_st S32 (a := (formL (fun p q => p && q) b a)) (b := (formL (fun p q => p && q) a b)) (by repeat (first | exact List.Mem.head _ | apply List.Mem.tail)) (by repeat (first | exact List.Mem.head _ | apply List.Mem.tail)) (t := true) (eqRs_iff.2 (and_comm_form b a))) ?_
  rintro e w33 ⟨rfl, S33⟩
  go_wp2_with fail
  refine Calls.mono (area2_st S33 (a := (formL (fun p q => p || q) a b)) (by repeat (first | exact List.Mem.head _ | apply List.Mem.tail)) (by omega) hAu) ?_
  rintro e w34 ⟨rfl, S34⟩
  go_wp2_with fail
  refine Calls.mono (area2_st S34 (a := (formL (fun p q => p && q) a b)) (by repeat (first | exact List.Mem.head _ | apply List.Mem.tail)) (by omega) hAo) ?_
  rintro e w35 ⟨rfl, S35⟩
  go_wp2_with fail
  refine Calls.mono (area2_st S35 (a := a) (by repeat (first | exact List.Mem.head _ | apply List.Mem.tail)) (by omega) hAa) ?_
  rintro e w36 ⟨rfl, S36⟩
  go_wp2_with fail
  refine Calls.mono (area2_st S36 (a := b) (by repeat (first | exact List.Mem.head _ | apply List.Mem.tail)) (by omega) hAb) ?_
  rintro e w37 ⟨rfl, S37⟩
  go_wp2_with fail
  refine Calls.mono (area2_st S37 (a := (formL (fun p q => p && !q) a b)) (by repeat (first | exact List.Mem.head _ | apply List.Mem.tail)) (by omega) hAm) ?_
  rintro e w38 ⟨rfl, S38⟩
  go_wp2_with fail
  refine Calls.mono (area2_st S38 (a := (formL (fun p q => p && q) a b)) (by repeat (first | exact List.Mem.head _ | apply List.Mem.tail)) (by omega) hAo) ?_
  rintro e w39 ⟨rfl, S39⟩
  go_wp2_with fail
  refine Calls.mono (area2_st S39 (a := (formL (fun p _ => p) a [])) (by repeat (first | exact List.Mem.head _ | apply List.Mem.tail)) (by omega) hAf) ?_
  rintro e w40 ⟨rfl, S40⟩
  go_wp2_with fail
  refine Calls.mono (has_st S40 (a := a) (by repeat (first | exact List.Mem.head _ | apply List.Mem.tail)) (t := P) (hP)) ?_
  rintro e w41 ⟨rfl, S41⟩
  clear z1 z2 z3 z4 z5 hAu hAo hAm hAa hAb hAf d1 d2 h1 h2 hB early hne
  go_wp2_with fail
  refine Calls.mono (has_st S41 (a := b) (by repeat (first | exact List.Mem.head _ | apply List.Mem.tail)) (t := Q) (hQ)) ?_
  rintro e w42 ⟨rfl, S42⟩
  cases P <;> cases Q
  · go_wp2_with fail
    refine Calls.mono (has_st S42 (a := (formL (fun p _ => p) a [])) (by repeat (first | exact List.Mem.head _ | apply List.Mem.tail)) (t := false) ((pix_ofform a x y).trans hP)) ?_
    rintro e w43 ⟨rfl, S43⟩
    go_wp2_with fail
    refine Calls.mono (has_st S43 (a := (formL (fun p q => p || q) a b)) (by repeat (first | exact List.Mem.head _ | apply List.Mem.tail)) (t := false) (by rw [pix_form _ rfl, hP, hQ]; rfl)) ?_
    rintro e w44 ⟨rfl, S44⟩
    go_wp2_with fail
    refine Calls.mono (has_st S44 (a := (formL (fun p q => p && !q) a b)) (by repeat (first | exact List.Mem.head _ | apply List.Mem.tail)) (t := false) (by rw [pix_form _ rfl, hP, hQ]; rfl)) ?_
    rintro e w45 ⟨rfl, S45⟩
    go_wp2_with fail
    refine Calls.mono (has_st S45 (a := (formL (fun p q => p && q) a b)) (by repeat (first | exact List.Mem.head _ | apply List.Mem.tail)) (t := false) (by rw [pix_form _ rfl, hP, hQ]; rfl)) ?_
    rintro e w46 ⟨rfl, S46⟩
    go_wp2_with fail
    refine Calls.mono (same_st S46 (a := a) (b := (formL (fun p _ => p) a [])) (by repeat (first | exact List.Mem.head _ | apply List.Mem.tail)) (by repeat (first | exact List.Mem.head _ | apply List.Mem.tail)) (by omega) Hsame.out) ?_
    rintro e w47 ⟨rfl, S47⟩
    go_wp2_with fail
    refine Calls.mono (wakes_any w47) ?_
    rintro e w48 ⟨rfl, hbk⟩
    have S48 := S47.later hbk
    go_wp2
    go_ret
    exact ⟨rfl, S48.below⟩
  · go_wp2_with fail
    refine Calls.mono (has_st S42 (a := (formL (fun p _ => p) a [])) (by repeat (first | exact List.Mem.head _ | apply List.Mem.tail)) (t := false) ((pix_ofform a x y).trans hP)) ?_
    rintro e w43 ⟨rfl, S43⟩
    go_wp2_with fail
    refine Calls.mono (has_st S43 (a := (formL (fun p q => p || q) a b)) (by repeat (first | exact List.Mem.head _ | apply List.Mem.tail)) (t := true) (by rw [pix_form _ rfl, hP, hQ]; rfl)) ?_
    rintro e w44 ⟨rfl, S44⟩
    go_wp2_with fail
    refine Calls.mono (has_st S44 (a := (formL (fun p q => p && !q) a b)) (by repeat (first | exact List.Mem.head _ | apply List.Mem.tail)) (t := false) (by rw [pix_form _ rfl, hP, hQ]; rfl)) ?_
    rintro e w45 ⟨rfl, S45⟩
    go_wp2_with fail
    refine Calls.mono (has_st S45 (a := (formL (fun p q => p && q) a b)) (by repeat (first | exact List.Mem.head _ | apply List.Mem.tail)) (t := false) (by rw [pix_form _ rfl, hP, hQ]; rfl)) ?_
    rintro e w46 ⟨rfl, S46⟩
    go_wp2_with fail
    refine Calls.mono (same_st S46 (a := a) (b := (formL (fun p _ => p) a [])) (by repeat (first | exact List.Mem.head _ | apply List.Mem.tail)) (by repeat (first | exact List.Mem.head _ | apply List.Mem.tail)) (by omega) Hsame.out) ?_
    rintro e w47 ⟨rfl, S47⟩
    go_wp2_with fail
    refine Calls.mono (wakes_any w47) ?_
    rintro e w48 ⟨rfl, hbk⟩
    have S48 := S47.later hbk
    go_wp2
    go_ret
    exact ⟨rfl, S48.below⟩
  · go_wp2_with fail
    refine Calls.mono (has_st S42 (a := (formL (fun p _ => p) a [])) (by repeat (first | exact List.Mem.head _ | apply List.Mem.tail)) (t := true) ((pix_ofform a x y).trans hP)) ?_
    rintro e w43 ⟨rfl, S43⟩
    go_wp2_with fail
    refine Calls.mono (has_st S43 (a := (formL (fun p q => p || q) a b)) (by repeat (first | exact List.Mem.head _ | apply List.Mem.tail)) (t := true) (by rw [pix_form _ rfl, hP, hQ]; rfl)) ?_
    rintro e w44 ⟨rfl, S44⟩
    go_wp2_with fail
    refine Calls.mono (has_st S44 (a := (formL (fun p q => p && !q) a b)) (by repeat (first | exact List.Mem.head _ | apply List.Mem.tail)) (t := true) (by rw [pix_form _ rfl, hP, hQ]; rfl)) ?_
    rintro e w45 ⟨rfl, S45⟩
    go_wp2_with fail
    refine Calls.mono (has_st S45 (a := (formL (fun p q => p && q) a b)) (by repeat (first | exact List.Mem.head _ | apply List.Mem.tail)) (t := false) (by rw [pix_form _ rfl, hP, hQ]; rfl)) ?_
    rintro e w46 ⟨rfl, S46⟩
    go_wp2_with fail
    refine Calls.mono (same_st S46 (a := a) (b := (formL (fun p _ => p) a [])) (by repeat (first | exact List.Mem.head _ | apply List.Mem.tail)) (by repeat (first | exact List.Mem.head _ | apply List.Mem.tail)) (by omega) Hsame.out) ?_
    rintro e w47 ⟨rfl, S47⟩
    go_wp2_with fail
    refine Calls.mono (bounds_st S47 (a := a) (by repeat (first | exact List.Mem.head _ | apply List.Mem.tail))) ?_
    rintro e w48 ⟨rfl, hbf, S48⟩
    go_wp2_with fail
    refine Calls.mono (rectHas_st S48 hbf (Hin.out hP)) ?_
    rintro e w49 ⟨rfl, S49⟩
    go_wp2_with fail
    refine Calls.mono (wakes_any w49) ?_
    rintro e w50 ⟨rfl, hbk⟩
    have S50 := S49.later hbk
    go_wp2
    go_ret
    exact ⟨rfl, S50.below⟩
  · go_wp2_with fail
    refine Calls.mono (has_st S42 (a := (formL (fun p _ => p) a [])) (by repeat (first | exact List.Mem.head _ | apply List.Mem.tail)) (t := true) ((pix_ofform a x y).trans hP)) ?_
    rintro e w43 ⟨rfl, S43⟩
    go_wp2_with fail
    refine Calls.mono (has_st S43 (a := (formL (fun p q => p || q) a b)) (by repeat (first | exact List.Mem.head _ | apply List.Mem.tail)) (t := true) (by rw [pix_form _ rfl, hP, hQ]; rfl)) ?_
    rintro e w44 ⟨rfl, S44⟩
    go_wp2_with fail
    refine Calls.mono (has_st S44 (a := (formL (fun p q => p && !q) a b)) (by repeat (first | exact List.Mem.head _ | apply List.Mem.tail)) (t := false) (by rw [pix_form _ rfl, hP, hQ]; rfl)) ?_
    rintro e w45 ⟨rfl, S45⟩
    go_wp2_with fail
    refine Calls.mono (has_st S45 (a := (formL (fun p q => p && q) a b)) (by repeat (first | exact List.Mem.head _ | apply List.Mem.tail)) (t := true) (by rw [pix_form _ rfl, hP, hQ]; rfl)) ?_
    rintro e w46 ⟨rfl, S46⟩
    go_wp2_with fail
    refine Calls.mono (same_st S46 (a := a) (b := (formL (fun p _ => p) a [])) (by repeat (first | exact List.Mem.head _ | apply List.Mem.tail)) (by repeat (first | exact List.Mem.head _ | apply List.Mem.tail)) (by omega) Hsame.out) ?_
    rintro e w47 ⟨rfl, S47⟩
    go_wp2_with fail
    refine Calls.mono (bounds_st S47 (a := a) (by repeat (first | exact List.Mem.head _ | apply List.Mem.tail))) ?_
    rintro e w48 ⟨rfl, hbf, S48⟩
    go_wp2_with fail
    refine Calls.mono (rectHas_st S48 hbf (Hin.out hP)) ?_
    rintro e w49 ⟨rfl, S49⟩
    go_wp2_with fail
    refine Calls.mono (wakes_any w49) ?_
    rintro e w50 ⟨rfl, hbk⟩
    have S50 := S49.later hbk
    go_wp2
    go_ret
    exact ⟨rfl, S50.below⟩

end Go.Proofs.Ytjgbelljijhfcaa
