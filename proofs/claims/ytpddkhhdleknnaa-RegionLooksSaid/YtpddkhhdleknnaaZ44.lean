/- Several texts in one, each with its own head. -/
import Derived.Test.YtpddkhhdleknnaaZ27
import Derived.Test.YtpddkhhdleknnaaZ41
import Derived.Test.YtpddkhhdleknnaaZ32
import Derived.Test.YtpddkhhdleknnaaZ43
import Derived.Test.YtpddkhhdleknnaaZ26
import Derived.Test.YtpddkhhdleknnaaZ18
/- Plain facts: how many rectangles a form has, out of few. -/
namespace Go.Proofs.Ytpddkhhdleknnaa
open Go.RowKit

theorem bandsR_len : ∀ (l : List (List Rc)) (ab : List Rc), (bandsR ab l).flatten.length ≤ ab.length + l.flatten.length
  | [], ab => by
    unfold bandsR
    split <;> simp
  | st :: l, ab => by
    have h1 := bandsR_len l (ab.map (higher ((st.map (·.b)).headD 0)))
    have h2 := bandsR_len l st
    rw [bandsR]
    rw [List.length_map] at h1
    rw [List.flatten_cons, List.length_append]
    split
    · omega
    · split
      · rw [List.nil_append]; omega
      · rw [List.flatten_append, List.length_append]
        simp only [List.flatten_cons, List.flatten_nil, List.append_nil]
        omega

theorem across_len (li : Int) (rs : List Rc) : (acrossOf li rs).length ≤ 2 * rs.length := by
  induction rs with
  | nil => simp [acrossOf]
  | cons r rs ih =>
    rw [show acrossOf li (r :: rs) = ⟨r.x, li, 1, r⟩ :: ⟨r.x + r.a, li, -1, r⟩ :: acrossOf li rs from rfl]
    simp only [List.length_cons]
    omega

theorem strip_len (mf : Bool → Bool → Bool) (a b : List Rc) (t y : Int) : (stripC mf a b t y).length ≤ 2 * (a.length + b.length) := by
  have h1 := cut_out mf t y (grp Ed.pl (srt (sidesAt a b t))) ⟨0, 0, 0, false, []⟩
  have h2 := grp_len Ed.pl (srt (sidesAt a b t))
  have h3 := (srt_perm (sidesAt a b t)).length_eq
  have h4 := across_len 0 (act a t)
  have h5 := across_len 1 (act b t)
  have h6 : (act a t).length ≤ a.length := List.length_filter_le _ _
  have h7 : (act b t).length ≤ b.length := List.length_filter_le _ _
  rw [sidesAt, List.length_append] at h3
  rw [show sidesAt a b t = acrossOf 0 (act a t) ++ acrossOf 1 (act b t) from rfl] at h2
  unfold stripC cutRun
  rw [show sidesAt a b t = acrossOf 0 (act a t) ++ acrossOf 1 (act b t) from rfl] at h1 ⊢
  simp only [List.length_nil, Nat.zero_add] at h1
  omega

theorem stripsK_len (mf : Bool → Bool → Bool) (a b : List Rc) : ∀ ks : List Int, (stripsK mf a b ks).flatten.length ≤ ks.length * (2 * (a.length + b.length))
  | [] => by simp [stripsK]
  | [_] => by simp [stripsK]
  | k :: k' :: ks => by
    have h1 := stripsK_len mf a b (k' :: ks)
    have h2 := strip_len mf a b k k'
    rw [stripsK, List.flatten_append, List.length_append]
    rw [List.length_cons (a := k), Nat.add_mul, Nat.one_mul]
    split
    · simp only [List.flatten_nil, List.length_nil]; omega
    · simp only [List.flatten_cons, List.flatten_nil, List.append_nil]; omega

theorem form_len2 (mf : Bool → Bool → Bool) (a b : List Rc) : (formL mf a b).length ≤ (2 * (a.length + b.length)) * (2 * (a.length + b.length)) := by
  have h1 := bandsR_len (stripsL mf a b) []
  have h2 := stripsK_len mf a b (keysOf a b)
  have h3 : (keysOf a b).length ≤ 2 * (a.length + b.length) := by
    have := grp_len Ed.pl (srt (downsL a b))
    have h4 := (srt_perm (downsL a b)).length_eq
    have h5 := edgesOf_len 0 a
    have h6 := edgesOf_len 1 b
    rw [keysOf, List.length_map]
    rw [show (downsL a b).length = (edgesOf 0 a ++ edgesOf 1 b).length from rfl, List.length_append] at h4
    omega
  have h4 := Nat.mul_le_mul_right (2 * (a.length + b.length)) h3
  unfold formL
  rw [bandsOf_R]
  rw [show stripsL mf a b = stripsK mf a b (keysOf a b) from rfl] at h1 ⊢
  simp only [List.length_nil, Nat.zero_add] at h1
  omega

theorem form_small {mf : Bool → Bool → Bool} {a b : List Rc} (ha : a.length ≤ 24) (hb : b.length ≤ 24) : (formL mf a b).length ≤ 9216 :=
  Nat.le_trans (form_len2 mf a b) (Nat.mul_le_mul (show 2 * (a.length + b.length) ≤ 96 by omega) (show 2 * (a.length + b.length) ≤ 96 by omega))

end Go.Proofs.Ytpddkhhdleknnaa

/- The statements' closed cases (wakes), and the state of a walk that only makes lists. -/
namespace Go.Proofs.Ytpddkhhdleknnaa
open Go.RowKit

theorem Rw.lit (w : World) (l : List Rc) (c : Array Value) (t : TypeId) (n : Nat) (hc : c.toList = flatR l) (hn : n = l.length) (hm : l.length ≤ maxLen) : Rw (w.alloc (.cells c t)) (.slice (some ⟨w.heap.size, 0, none⟩) n n) l := by
  subst hn
  refine ⟨⟨_, _, rfl, Nat.le_refl _, hm, .inr ⟨_, _, rfl, by simp, fun i x hi j u hj => ?_⟩⟩, fun c h => by cases h⟩
  have hj4 : j < 4 := by
    have := (List.getElem?_eq_some_iff.1 hj).1
    simpa [encR] using this
  have h1 := flat_at (enc := encR) (k := 4) (fun _ => rfl) l i j hj4
  rw [hi] at h1
  refine cell_at rfl ?_
  rw [Nat.zero_add, ← Array.getElem?_toList, hc]
  exact h1.trans hj

/-- Lists that were made since w0, each read by its slice. -/
structure St (w0 w : World) (l : List (Value × List Rc)) : Prop where
  below : Below w0.heap.size w0 w
  all : ∀ v xs, (v, xs) ∈ l → Rw w v xs ∧ ∀ r ∈ xs, Fit r

theorem St.add {w0 w w1 : World} {l : List (Value × List Rc)} (h : St w0 w l) (hb : Below w.heap.size w w1) {u : Value} {ys : List Rc} (hu : Rw w1 u ys) (hf : ∀ r ∈ ys, Fit r) : St w0 w1 ((u, ys) :: l) := by
  refine ⟨h.below.trans (hb.mono h.below.size), fun v xs hm => ?_⟩
  rcases List.mem_cons.1 hm with e | e
  · cases e; exact ⟨hu, hf⟩
  · exact ⟨(h.all v xs e).1.below hb, (h.all v xs e).2⟩

theorem St.later {w0 w w1 : World} {l : List (Value × List Rc)} (h : St w0 w l) (hb : Below w.heap.size w w1) : St w0 w1 l :=
  ⟨h.below.trans (hb.mono h.below.size), fun v xs hm => ⟨(h.all v xs hm).1.below hb, (h.all v xs hm).2⟩⟩

theorem own_st {w0 w : World} {l : List (Value × List Rc)} {v : Value} {xs : List Rc} (h : St w0 w l) (hm : (v, xs) ∈ l) (hlen : xs.length ≤ 67108864) :
    Calls Try.prog 9 #[v] w fun e w' => ∃ u, e = .returned u ∧ St w0 w' ((u, xs) :: l) := by
  refine Calls.mono (own_any v xs w (h.all _ _ hm).1 hlen) ?_
  rintro e w' ⟨u, rfl, hr, hb⟩
  exact ⟨u, rfl, h.add hb hr (h.all _ _ hm).2⟩

theorem or_st {w0 w : World} {l : List (Value × List Rc)} {va vb : Value} {a b : List Rc} (h : St w0 w l) (ha : (va, a) ∈ l) (hb : (vb, b) ∈ l) (hlen : a.length + b.length ≤ 67108864) :
    Calls Try.prog 14 #[va, vb] w fun e w' => ∃ p c, e = .returned (.slice p (formL (fun p q => p || q) a b).length c) ∧ St w0 w' ((.slice p (formL (fun p q => p || q) a b).length c, formL (fun p q => p || q) a b) :: l) := by
  refine Calls.mono (regOr_any va vb a b w (h.all _ _ ha).1.row (h.all _ _ hb).1.row (h.all _ _ ha).2 (h.all _ _ hb).2 hlen (form_len _ rfl _ _)) ?_
  rintro e w' ⟨u, rfl, hr, hb⟩
  obtain ⟨p, c, rfl⟩ := owns_slice hr
  exact ⟨p, c, rfl, h.add hb (Rw.owned hr) (form_fit _ rfl _ _)⟩

theorem and_st {w0 w : World} {l : List (Value × List Rc)} {va vb : Value} {a b : List Rc} (h : St w0 w l) (ha : (va, a) ∈ l) (hb : (vb, b) ∈ l) (hlen : a.length + b.length ≤ 67108864) :
    Calls Try.prog 13 #[va, vb] w fun e w' => ∃ p c, e = .returned (.slice p (formL (fun p q => p && q) a b).length c) ∧ St w0 w' ((.slice p (formL (fun p q => p && q) a b).length c, formL (fun p q => p && q) a b) :: l) := by
  refine Calls.mono (regAnd_any va vb a b w (h.all _ _ ha).1.row (h.all _ _ hb).1.row (h.all _ _ ha).2 (h.all _ _ hb).2 hlen (form_len _ rfl _ _)) ?_
  rintro e w' ⟨u, rfl, hr, hb⟩
  obtain ⟨p, c, rfl⟩ := owns_slice hr
  exact ⟨p, c, rfl, h.add hb (Rw.owned hr) (form_fit _ rfl _ _)⟩

theorem minus_st {w0 w : World} {l : List (Value × List Rc)} {va vb : Value} {a b : List Rc} (h : St w0 w l) (ha : (va, a) ∈ l) (hb : (vb, b) ∈ l) (hlen : a.length + b.length ≤ 67108864) :
    Calls Try.prog 15 #[va, vb] w fun e w' => ∃ p c, e = .returned (.slice p (formL (fun p q => p && !q) a b).length c) ∧ St w0 w' ((.slice p (formL (fun p q => p && !q) a b).length c, formL (fun p q => p && !q) a b) :: l) := by
  refine Calls.mono (regMinus_any va vb a b w (h.all _ _ ha).1.row (h.all _ _ hb).1.row (h.all _ _ ha).2 (h.all _ _ hb).2 hlen (form_len _ rfl _ _)) ?_
  rintro e w' ⟨u, rfl, hr, hb⟩
  obtain ⟨p, c, rfl⟩ := owns_slice hr
  exact ⟨p, c, rfl, h.add hb (Rw.owned hr) (form_fit _ rfl _ _)⟩

theorem of_st {w0 w : World} {l : List (Value × List Rc)} {va : Value} {a : List Rc} (h : St w0 w l) (ha : (va, a) ∈ l) (hlen : a.length ≤ 67108864) :
    Calls Try.prog 10 #[va] w fun e w' => ∃ p c, e = .returned (.slice p (formL (fun p _ => p) a []).length c) ∧ St w0 w' ((.slice p (formL (fun p _ => p) a []).length c, formL (fun p _ => p) a []) :: l) := by
  refine Calls.mono (regOf_any va a w (h.all _ _ ha).1.row (h.all _ _ ha).2 hlen (form_len _ rfl _ _)) ?_
  rintro e w' ⟨u, rfl, hr, hb⟩
  obtain ⟨p, c, rfl⟩ := owns_slice hr
  exact ⟨p, c, rfl, h.add hb (Rw.owned hr) (form_fit _ rfl _ _)⟩

theorem refRects_st {w0 w : World} {l : List (Value × List Rc)} {va vb : Value} {a b : List Rc} (h : St w0 w l) (ha : (va, a) ∈ l) (hb : (vb, b) ∈ l) {t : Bool} (ht : eqRs a b = t) :
    Calls Try.prog 11 #[va, vb] w fun e w' => e = .returned (.bool t) ∧ St w0 w' l := by
  refine Calls.mono (refRects_any va vb a b w (h.all _ _ ha).1.row (h.all _ _ hb).1.row) ?_
  rintro e w' ⟨rfl, hb⟩
  exact ⟨by rw [ht], h.later hb⟩

theorem area_st {w0 w : World} {l : List (Value × List Rc)} {va : Value} {a : List Rc} (h : St w0 w l) (ha : (va, a) ∈ l) (hlen : a.length ≤ 67108864) :
    Calls Try.prog 19 #[va] w fun e w' => e = .returned (.int .i64 (areaS (formL (fun p _ => p) a []))) ∧ St w0 w' l := by
  refine Calls.mono (regArea_any va a w (h.all _ _ ha).1.row (h.all _ _ ha).2 hlen) ?_
  rintro e w' ⟨rfl, hb⟩
  exact ⟨rfl, h.later hb⟩

theorem is_st {w0 w : World} {l : List (Value × List Rc)} {va : Value} {a : List Rc} (h : St w0 w l) (ha : (va, a) ∈ l) {t : Bool} (ht : isL a = t) :
    Calls Try.prog 16 #[va] w fun e w' => e = .returned (.bool t) ∧ St w0 w' l := by
  refine Calls.mono (isRg_any va a w (h.all _ _ ha).1.row (h.all _ _ ha).2) ?_
  rintro e w' ⟨rfl, hb⟩
  exact ⟨by rw [ht], h.later hb⟩

end Go.Proofs.Ytpddkhhdleknnaa

/- The statements' closed cases: wakes answers true. -/
namespace Go.Proofs.Ytpddkhhdleknnaa
open Go.RowKit

def wA : List Rc := [⟨0, 0, 2, 2⟩, ⟨1, 1, 2, 2⟩]
def wF : List Rc := [⟨0, 0, 2, 1⟩, ⟨0, 1, 3, 1⟩, ⟨1, 2, 2, 1⟩]

theorem wF_canon : Canon [[⟨0, 0, 2, 1⟩], [⟨0, 1, 3, 1⟩], [⟨1, 2, 2, 1⟩]] := by
  refine ⟨⟨0, 1, ⟨by simp, ⟨by decide, by simp, trivial⟩, by decide, by simp⟩, by simp⟩, ?_, ⟨1, 1, ⟨by simp, ⟨by decide, by simp, trivial⟩, by decide, by simp⟩, by simp⟩, ?_, ⟨2, 1, ⟨by simp, ⟨by decide, by simp, trivial⟩, by decide, by simp⟩, by simp⟩, ?_, trivial⟩
  · intro c h; cases h; decide
  · intro c h; cases h; decide
  · intro c h; cases h

theorem hasR_lit {x y a b : Int} (h : emptyR ⟨x, y, a, b⟩ = false) (p q : Int) : hasR ⟨x, y, a, b⟩ p q = decide ((x ≤ p ∧ p < x + a) ∧ (y ≤ q ∧ q < y + b)) := by
  rw [Bool.eq_iff_iff, has_iff]
  simp [h]

theorem wF_form : formL (fun p _ => p) wA [] = wF := by
  have h := form_canon (mf := fun p _ => p) rfl (a := wA) (b := []) wF_canon (by decide) (by
    intro x y
    simp only [pix, wA, List.flatten_cons, List.flatten_nil, List.append_nil, List.nil_append, List.cons_append, List.any_cons, List.any_nil, Bool.or_false]
    rw [hasR_lit (by decide), hasR_lit (by decide), hasR_lit (by decide), hasR_lit (by decide), hasR_lit (by decide)]
    rw [Bool.eq_iff_iff]
    simp only [Bool.or_eq_true, decide_eq_true_eq]
    omega)
  unfold formL
  rw [h]
  rfl

theorem wF_area : areaS (formL (fun p _ => p) wF []) = 7 := by
  rw [← wF_form, shift_again, wF_form]
  decide

theorem wF_is : isL wF = true := by rw [← wF_form]; exact isL_form _ rfl _ _
theorem wN_is : isL [⟨0, 0, 1, 1⟩, ⟨1, 0, 1, 1⟩] = false := by decide

theorem all_fit {l : List Rc} (h : l.any emptyR = false) : ∀ r ∈ l, Fit r := fun r hr => full_fit (by
  cases h1 : emptyR r
  · rfl
  · rw [List.any_eq_true.2 ⟨r, hr, h1⟩] at h; cases h)

set_option maxHeartbeats 1000000 in
theorem wakes_any (w : World) : Makes Try.prog 8 #[] w (.bool true) := by
  unfold Makes
  go_enter Try.func8, Try.ntmps8
  have S0 : St w w [] := ⟨Below.refl _ _, fun v xs h => by cases h⟩
  go_wp2_with fail
  have S1 := S0.add (Below.al1 w _) (Rw.lit w wA #[.int .i64 0, .int .i64 0, .int .i64 2, .int .i64 2, .int .i64 1, .int .i64 1, .int .i64 2, .int .i64 2] 30 2 rfl rfl (by decide)) (all_fit (by decide))
  refine Calls.mono (of_st S1 (a := wA) (by simp) (by decide)) ?_
  rw [wF_form]
  rintro e w1 ⟨p, c, rfl, S2⟩
  have hlF : wF.length = 3 := rfl
  rw [hlF] at S2 ⊢
  go_wp2_with fail
  have S3 := S2.add (Below.al1 w1 _) (Rw.lit w1 wF #[.int .i64 0, .int .i64 0, .int .i64 2, .int .i64 1, .int .i64 0, .int .i64 1, .int .i64 3, .int .i64 1, .int .i64 1, .int .i64 2, .int .i64 2, .int .i64 1] 30 3 rfl rfl (by decide)) (all_fit (by decide))
  refine Calls.mono (refRects_st S3 (a := wF) (b := wF) (by simp) (by simp) (t := true) (by decide)) ?_
  rintro e w2 ⟨rfl, S4⟩
  go_wp2_with fail
  refine Calls.mono (area_st S4 (a := wF) (by simp) (by decide)) ?_
  rw [wF_area]
  rintro e w3 ⟨rfl, S5⟩
  go_wp2_with fail
  refine Calls.mono (is_st S5 (a := wF) (by simp) wF_is) ?_
  rintro e w4 ⟨rfl, S6⟩
  go_wp2_with fail
  have S7 := S6.add (Below.al1 w4 _) (Rw.lit w4 [⟨0, 0, 1, 1⟩, ⟨1, 0, 1, 1⟩] #[.int .i64 0, .int .i64 0, .int .i64 1, .int .i64 1, .int .i64 1, .int .i64 0, .int .i64 1, .int .i64 1] 30 2 rfl rfl (by decide)) (all_fit (by decide))
  refine Calls.mono (is_st S7 (a := [⟨0, 0, 1, 1⟩, ⟨1, 0, 1, 1⟩]) (by simp) wN_is) ?_
  rintro e w5 ⟨rfl, S8⟩
  go_wp2
  go_ret
  exact ⟨rfl, S8.below⟩

end Go.Proofs.Ytpddkhhdleknnaa

/- The statements' own same: do two bands touch, and are they alike across? -/
namespace Go.Proofs.Ytpddkhhdleknnaa
open Go.RowKit

end Go.Proofs.Ytpddkhhdleknnaa
