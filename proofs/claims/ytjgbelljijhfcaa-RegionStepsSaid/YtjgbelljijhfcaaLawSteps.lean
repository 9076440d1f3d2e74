/- RegionSteps answers true: together, and in common, hang on no order; what is taken away twice is taken away together. -/
import Derived.Test.YtjgbelljijhfcaaWakes
namespace Go.Proofs.Ytjgbelljijhfcaa
open Go.RowKit

theorem or_assoc_form (a b c : List Rc) : formL (fun p q => p || q) (formL (fun p q => p || q) a b) c = formL (fun p q => p || q) a (formL (fun p q => p || q) b c) :=
  form_unique rfl rfl (fun x y => by rw [pix_form _ rfl, pix_form _ rfl, Bool.or_assoc])
theorem and_assoc_form (a b c : List Rc) : formL (fun p q => p && q) (formL (fun p q => p && q) a b) c = formL (fun p q => p && q) a (formL (fun p q => p && q) b c) :=
  form_unique rfl rfl (fun x y => by rw [pix_form _ rfl, pix_form _ rfl, Bool.and_assoc])
theorem minus_twice_form (a b c : List Rc) : formL (fun p q => p && !q) (formL (fun p q => p && !q) a b) c = formL (fun p q => p && !q) a (formL (fun p q => p || q) b c) :=
  form_unique rfl rfl (fun x y => by rw [pix_form _ rfl, pix_form _ rfl, Bool.not_or, Bool.and_assoc])
theorem and_or_form (a b c : List Rc) : formL (fun p q => p && q) (formL (fun p q => p || q) a b) c = formL (fun p q => p || q) (formL (fun p q => p && q) a c) (formL (fun p q => p && q) b c) :=
  form_unique rfl rfl (fun x y => by rw [pix_form _ rfl, pix_form _ rfl, pix_form _ rfl, Bool.and_or_distrib_right])
theorem minus_self_form (a : List Rc) : formL (fun p q => p && !q) a a = [] := form_none rfl (fun x y => by simp)
theorem and_self_form (a : List Rc) : formL (fun p q => p && q) a a = formL (fun p _ => p) a [] := form_unique rfl rfl (fun x y => by simp)

set_option maxRecDepth 100000 in
set_option maxHeartbeats 4000000 in
theorem steps_any (va : Value) (a : List Rc) (vb : Value) (b : List Rc) (vc : Value) (c : List Rc) (w : World) (ha : Rw w va a) (hfa : ∀ r ∈ a, Fit r) (hb : Rw w vb b) (hfb : ∀ r ∈ b, Fit r) (hc : Rw w vc c) (hfc : ∀ r ∈ c, Fit r) :
    Makes Try.prog 6 #[va, vb, vc] w (.bool true) := by
  unfold Makes
  have S0 : St w w [(va, a), (vb, b), (vc, c)] := ⟨Below.refl _ _, fun v xs h => by
    simp only [List.mem_cons, Prod.mk.injEq, List.not_mem_nil, or_false] at h
    rcases h with ⟨rfl, rfl⟩ | ⟨rfl, rfl⟩ | ⟨rfl, rfl⟩
    · exact ⟨ha, hfa⟩
    · exact ⟨hb, hfb⟩
    · exact ⟨hc, hfc⟩⟩
  obtain ⟨⟨pa, ca, rfl, -, -, -⟩, -⟩ := ha
  obtain ⟨⟨pb, cb, rfl, -, -, -⟩, -⟩ := hb
  obtain ⟨⟨pc, cc, rfl, -, -, -⟩, -⟩ := hc
  clear hfa hfb hfc
  go_enter Try.func6, Try.ntmps6
  have early : ∀ {R : Ending → World → Prop}, (∀ e w', e = .returned (.bool true) ∧ Below w.heap.size w w' → R e w') → Calls Try.prog 8 #[] w R := fun h => Calls.mono (wakes_any w) h
  by_cases h1 : 24 < a.length
  · have d1 : decide ((24 : Int) < (a.length : Int)) = true := by simp; omega
    go_wp2_with fail
    refine early ?_
    rintro e w' ⟨rfl, hbk⟩
    go_wp2
    go_ret
    exact ⟨rfl, hbk⟩
  have d1 : decide ((24 : Int) < (a.length : Int)) = false := by simp; omega
  by_cases h2 : 24 < b.length
  · have d2 : decide ((24 : Int) < (b.length : Int)) = true := by simp; omega
    go_wp2_with fail
    refine early ?_
    rintro e w' ⟨rfl, hbk⟩
    go_wp2
    go_ret
    exact ⟨rfl, hbk⟩
  have d2 : decide ((24 : Int) < (b.length : Int)) = false := by simp; omega
  by_cases h3 : 24 < c.length
  · have d3 : decide ((24 : Int) < (c.length : Int)) = true := by simp; omega
    go_wp2_with fail
    refine early ?_
    rintro e w' ⟨rfl, hbk⟩
    go_wp2
    go_ret
    exact ⟨rfl, hbk⟩
  have d3 : decide ((24 : Int) < (c.length : Int)) = false := by simp; omega
  have ea : a.length ≤ 24 := by omega
  have eb : b.length ≤ 24 := by omega
  have ec : c.length ≤ 24 := by omega
  have q1 := form_small (mf := fun p q => p || q) ea eb
  have q2 := form_small (mf := fun p q => p || q) eb ec
  have q3 := form_small (mf := fun p q => p && q) ea eb
  have q4 := form_small (mf := fun p q => p && q) eb ec
  have q5 := form_small (mf := fun p q => p && q) ea ec
  have q6 := form_small (mf := fun p q => p && !q) ea eb
  go_wp2_with fail
  refine Calls.mono (own_st S0 (xs := a) (by simp) (by omega)) ?_
  rintro e w1 ⟨u1, rfl, S1⟩
  go_wp2_with fail
  refine Calls.mono (own_st S1 (xs := b) (by simp) (by omega)) ?_
  rintro e w2 ⟨u2, rfl, S2⟩
  go_wp2_with fail
  refine Calls.mono (or_st S2 (a := a) (b := b) (by simp) (by simp) (by omega)) ?_
  rintro e w3 ⟨p3, c3, rfl, S3⟩
  go_wp2_with fail
  refine Calls.mono (own_st S3 (xs := b) (by simp) (by omega)) ?_
  rintro e w4 ⟨u4, rfl, S4⟩
  go_wp2_with fail
  refine Calls.mono (own_st S4 (xs := c) (by simp) (by omega)) ?_
  rintro e w5 ⟨u5, rfl, S5⟩
  go_wp2_with fail
  refine Calls.mono (or_st S5 (a := b) (b := c) (by simp) (by simp) (by omega)) ?_
  rintro e w6 ⟨p6, c6, rfl, S6⟩
  go_wp2_with fail
  refine Calls.mono (own_st S6 (xs := c) (by simp) (by omega)) ?_
  rintro e w7 ⟨u7, rfl, S7⟩
  go_wp2_with fail
  refine Calls.mono (or_st S7 (a := (formL (fun p q => p || q) a b)) (b := c) (by simp) (by simp) (by omega)) ?_
  rintro e w8 ⟨p8, c8, rfl, S8⟩
  go_wp2_with fail
  refine Calls.mono (own_st S8 (xs := a) (by simp) (by omega)) ?_
  rintro e w9 ⟨u9, rfl, S9⟩
  go_wp2_with fail
  refine Calls.mono (or_st S9 (a := a) (b := (formL (fun p q => p || q) b c)) (by simp) (by simp) (by omega)) ?_
  rintro e w10 ⟨p10, c10, rfl, S10⟩
  go_wp2_with fail
  refine Calls.mono (lawRects_st S10 (a := (formL (fun p q => p || q) (formL (fun p q => p || q) a b) c)) (b := (formL (fun p q => p || q) a (formL (fun p q => p || q) b c))) (by simp) (by simp) (t := true) (eqRs_iff.2 (or_assoc_form a b c))) ?_
  rintro e w11 ⟨rfl, S11⟩
  go_wp2_with fail
  refine Calls.mono (own_st S11 (xs := a) (by simp) (by omega)) ?_
  rintro e w12 ⟨u12, rfl, S12⟩
  go_wp2_with fail
  refine Calls.mono (own_st S12 (xs := b) (by simp) (by omega)) ?_
  rintro e w13 ⟨u13, rfl, S13⟩
  go_wp2_with fail
  refine Calls.mono (and_st S13 (a := a) (b := b) (by simp) (by simp) (by omega)) ?_
  rintro e w14 ⟨p14, c14, rfl, S14⟩
  go_wp2_with fail
  refine Calls.mono (own_st S14 (xs := c) (by simp) (by omega)) ?_
  rintro e w15 ⟨u15, rfl, S15⟩
  go_wp2_with fail
  refine Calls.mono (and_st S15 (a := (formL (fun p q => p && q) a b)) (b := c) (by simp) (by simp) (by omega)) ?_
  rintro e w16 ⟨p16, c16, rfl, S16⟩
  go_wp2_with fail
  refine Calls.mono (own_st S16 (xs := a) (by simp) (by omega)) ?_
  rintro e w17 ⟨u17, rfl, S17⟩
  go_wp2_with fail
  refine Calls.mono (own_st S17 (xs := b) (by simp) (by omega)) ?_
  rintro e w18 ⟨u18, rfl, S18⟩
  go_wp2_with fail
  refine Calls.mono (own_st S18 (xs := c) (by simp) (by omega)) ?_
  rintro e w19 ⟨u19, rfl, S19⟩
  go_wp2_with fail
  refine Calls.mono (and_st S19 (a := b) (b := c) (by simp) (by simp) (by omega)) ?_
  rintro e w20 ⟨p20, c20, rfl, S20⟩
  go_wp2_with fail
  refine Calls.mono (and_st S20 (a := a) (b := (formL (fun p q => p && q) b c)) (by simp) (by simp) (by omega)) ?_
  rintro e w21 ⟨p21, c21, rfl, S21⟩
  go_wp2_with fail
  refine Calls.mono (lawRects_st S21 (a := (formL (fun p q => p && q) (formL (fun p q => p && q) a b) c)) (b := (formL (fun p q => p && q) a (formL (fun p q => p && q) b c))) (by simp) (by simp) (t := true) (eqRs_iff.2 (and_assoc_form a b c))) ?_
  rintro e w22 ⟨rfl, S22⟩
  go_wp2_with fail
  refine Calls.mono (own_st S22 (xs := a) (by simp) (by omega)) ?_
  rintro e w23 ⟨u23, rfl, S23⟩
  go_wp2_with fail
  refine Calls.mono (own_st S23 (xs := b) (by simp) (by omega)) ?_
  rintro e w24 ⟨u24, rfl, S24⟩
  go_wp2_with fail
  refine Calls.mono (minus_st S24 (a := a) (b := b) (by simp) (by simp) (by omega)) ?_
  rintro e w25 ⟨p25, c25, rfl, S25⟩
  go_wp2_with fail
  refine Calls.mono (own_st S25 (xs := c) (by simp) (by omega)) ?_
  rintro e w26 ⟨u26, rfl, S26⟩
  go_wp2_with fail
  refine Calls.mono (minus_st S26 (a := (formL (fun p q => p && !q) a b)) (b := c) (by simp) (by simp) (by omega)) ?_
  rintro e w27 ⟨p27, c27, rfl, S27⟩
  go_wp2_with fail
  refine Calls.mono (own_st S27 (xs := a) (by simp) (by omega)) ?_
  rintro e w28 ⟨u28, rfl, S28⟩
  go_wp2_with fail
  refine Calls.mono (minus_st S28 (a := a) (b := (formL (fun p q => p || q) b c)) (by simp) (by simp) (by omega)) ?_
  rintro e w29 ⟨p29, c29, rfl, S29⟩
  go_wp2_with fail
  refine Calls.mono (lawRects_st S29 (a := (formL (fun p q => p && !q) (formL (fun p q => p && !q) a b) c)) (b := (formL (fun p q => p && !q) a (formL (fun p q => p || q) b c))) (by simp) (by simp) (t := true) (eqRs_iff.2 (minus_twice_form a b c))) ?_
  rintro e w30 ⟨rfl, S30⟩
  go_wp2_with fail
  refine Calls.mono (own_st S30 (xs := c) (by simp) (by omega)) ?_
  rintro e w31 ⟨u31, rfl, S31⟩
  go_wp2_with fail
  refine Calls.mono (and_st S31 (a := (formL (fun p q => p || q) a b)) (b := c) (by simp) (by simp) (by omega)) ?_
  rintro e w32 ⟨p32, c32, rfl, S32⟩
  go_wp2_with fail
  refine Calls.mono (own_st S32 (xs := a) (by simp) (by omega)) ?_
  rintro e w33 ⟨u33, rfl, S33⟩
  go_wp2_with fail
  refine Calls.mono (own_st S33 (xs := c) (by simp) (by omega)) ?_
  rintro e w34 ⟨u34, rfl, S34⟩
  go_wp2_with fail
  refine Calls.mono (and_st S34 (a := a) (b := c) (by simp) (by simp) (by omega)) ?_
  rintro e w35 ⟨p35, c35, rfl, S35⟩
  go_wp2_with fail
  refine Calls.mono (own_st S35 (xs := b) (by simp) (by omega)) ?_
  rintro e w36 ⟨u36, rfl, S36⟩
  go_wp2_with fail
  refine Calls.mono (own_st S36 (xs := c) (by simp) (by omega)) ?_
  rintro e w37 ⟨u37, rfl, S37⟩
  go_wp2_with fail
  refine Calls.mono (and_st S37 (a := b) (b := c) (by simp) (by simp) (by omega)) ?_
  rintro e w38 ⟨p38, c38, rfl, S38⟩
  go_wp2_with fail
  refine Calls.mono (or_st S38 (a := (formL (fun p q => p && q) a c)) (b := (formL (fun p q => p && q) b c)) (by simp) (by simp) (by omega)) ?_
  rintro e w39 ⟨p39, c39, rfl, S39⟩
  go_wp2_with fail
  refine Calls.mono (lawRects_st S39 (a := (formL (fun p q => p && q) (formL (fun p q => p || q) a b) c)) (b := (formL (fun p q => p || q) (formL (fun p q => p && q) a c) (formL (fun p q => p && q) b c))) (by simp) (by simp) (t := true) (eqRs_iff.2 (and_or_form a b c))) ?_
  rintro e w40 ⟨rfl, S40⟩
  go_wp2_with fail
  refine Calls.mono (own_st S40 (xs := a) (by simp) (by omega)) ?_
  rintro e w41 ⟨u41, rfl, S41⟩
  go_wp2_with fail
  refine Calls.mono (own_st S41 (xs := a) (by simp) (by omega)) ?_
  rintro e w42 ⟨u42, rfl, S42⟩
  go_wp2_with fail
  refine Calls.mono (minus_st S42 (a := a) (b := a) (by simp) (by simp) (by omega)) ?_
  rintro e w43 ⟨p43, c43, rfl, S43⟩
  rw [minus_self_form a] at S43 ⊢
  go_wp2_with fail
  refine Calls.mono (own_st S43 (xs := a) (by simp) (by omega)) ?_
  rintro e w44 ⟨u44, rfl, S44⟩
  go_wp2_with fail
  refine Calls.mono (own_st S44 (xs := a) (by simp) (by omega)) ?_
  rintro e w45 ⟨u45, rfl, S45⟩
  go_wp2_with fail
  refine Calls.mono (and_st S45 (a := a) (b := a) (by simp) (by simp) (by omega)) ?_
  rintro e w46 ⟨p46, c46, rfl, S46⟩
  go_wp2_with fail
  refine Calls.mono (own_st S46 (xs := a) (by simp) (by omega)) ?_
  rintro e w47 ⟨u47, rfl, S47⟩
  go_wp2_with fail
  refine Calls.mono (of_st S47 (a := a) (by simp) (by omega)) ?_
  rintro e w48 ⟨p48, c48, rfl, S48⟩
  go_wp2_with fail
  refine Calls.mono (lawRects_st S48 (a := (formL (fun p q => p && q) a a)) (b := (formL (fun p _ => p) a [])) (by simp) (by simp) (t := true) (eqRs_iff.2 (and_self_form a))) ?_
  rintro e w49 ⟨rfl, S49⟩
  go_wp2_with fail
  refine Calls.mono (wakes_any w49) ?_
  rintro e w50 ⟨rfl, hbk⟩
  have S50 := S49.later hbk
  go_wp2
  go_ret
  exact ⟨rfl, S50.below⟩

end Go.Proofs.Ytjgbelljijhfcaa
