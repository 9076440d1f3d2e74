/- Plain facts: how many pixels a list in form has. -/
import Derived.Test.YtjigdgfanpeibaaTC22
namespace Go.Proofs.Ytjigdgfanpeibaa

/-- A sum over places, from -1048576 on. -/
def sumX (f : Int → Int) : Nat → Int
  | 0 => 0
  | n + 1 => sumX f n + f (-1048576 + n)

theorem sumX_add (f g : Int → Int) (n : Nat) : sumX (fun x => f x + g x) n = sumX f n + sumX g n := by
  induction n with
  | zero => rfl
  | succ n ih => simp only [sumX, ih]; omega
theorem sumX_congr {f g : Int → Int} (h : ∀ x, f x = g x) (n : Nat) : sumX f n = sumX g n := by rw [funext h]
theorem sumX_le {f : Int → Int} {k : Int} (h : ∀ x, 0 ≤ f x ∧ f x ≤ k) (n : Nat) : 0 ≤ sumX f n ∧ sumX f n ≤ n * k := by
  induction n with
  | zero => simp [sumX]
  | succ n ih =>
    have h1 := h (-1048576 + n)
    simp only [sumX]
    rw [Int.natCast_add, Int.add_mul]
    omega
theorem sumX_const (k : Int) (f s : Int) (hf : -1048576 ≤ f) (hs : 0 ≤ s) (n : Nat) (hn : f + s ≤ -1048576 + n) : sumX (fun x => if f ≤ x ∧ x < f + s then k else 0) n = s * k := by
  have key : ∀ n : Nat, sumX (fun x => if f ≤ x ∧ x < f + s then k else 0) n = (max 0 (min (f + s) (-1048576 + n) - f)) * k := by
    intro n
    induction n with
    | zero =>
      have : max 0 (min (f + s) (-1048576 + ((0 : Nat) : Int)) - f) = 0 := by omega
      rw [this]; simp [sumX]
    | succ n ih =>
      simp only [sumX]
      rw [ih]
      by_cases h : f ≤ -1048576 + (n : Int) ∧ -1048576 + (n : Int) < f + s
      · rw [if_pos h]
        have : max 0 (min (f + s) (-1048576 + ((n + 1 : Nat) : Int)) - f) = max 0 (min (f + s) (-1048576 + (n : Int)) - f) + 1 := by omega
        rw [this, Int.add_mul]; omega
      · rw [if_neg h]
        have : max 0 (min (f + s) (-1048576 + ((n + 1 : Nat) : Int)) - f) = max 0 (min (f + s) (-1048576 + (n : Int)) - f) := by omega
        rw [this]; omega
  rw [key n]
  have : max 0 (min (f + s) (-1048576 + (n : Int)) - f) = s := by omega
  rw [this]

/-- A sum over pixels. -/
def sumP (f : Int → Int → Int) (n m : Nat) : Int := sumX (fun y => sumX (fun x => f x y) n) m

theorem sumP_add (f g : Int → Int → Int) (n m : Nat) : sumP (fun x y => f x y + g x y) n m = sumP f n m + sumP g n m := by
  unfold sumP
  rw [← sumX_add]
  exact sumX_congr (fun y => sumX_add _ _ _) m
theorem sumP_congr {f g : Int → Int → Int} (h : ∀ x y, f x y = g x y) (n m : Nat) : sumP f n m = sumP g n m := by
  rw [show f = g from funext fun x => funext fun y => h x y]
theorem sumP_zero (n m : Nat) : sumP (fun _ _ => 0) n m = 0 := by
  have h1 : ∀ n, sumX (fun _ => 0) n = 0 := by
    intro n
    induction n with
    | zero => rfl
    | succ n ih => simp [sumX, ih]
  unfold sumP
  rw [sumX_congr (g := fun _ => 0) (fun y => h1 n), h1]

def ind (p : Bool) : Int := if p = true then 1 else 0

theorem sumP_rect {r : Rc} (h : emptyR r = false) (n m : Nat) (hn : n = 2097152) (hm : m = 2097152) : sumP (fun x y => ind (hasR r x y)) n m = areaR r := by
  have hb := emptyR_false.1 h
  have e : ∀ x y, ind (hasR r x y) = if r.x ≤ x ∧ x < r.x + r.a then (if r.y ≤ y ∧ y < r.y + r.b then 1 else 0) else 0 := by
    intro x y
    unfold ind
    by_cases h1 : r.x ≤ x ∧ x < r.x + r.a
    · by_cases h2 : r.y ≤ y ∧ y < r.y + r.b
      · rw [if_pos h1, if_pos h2, if_pos (has_iff.2 ⟨h, h1, h2⟩)]
      · rw [if_pos h1, if_neg h2, if_neg (fun hh => h2 (has_iff.1 hh).2.2)]
    · rw [if_neg h1, if_neg (fun hh => h1 (has_iff.1 hh).2.1)]
  unfold sumP
  have e2 : ∀ y, sumX (fun x => ind (hasR r x y)) n = if r.y ≤ y ∧ y < r.y + r.b then r.a else 0 := by
    intro y
    rw [sumX_congr (fun x => e x y), sumX_const _ r.x r.a (by omega) (by omega) n (by omega)]
    split <;> omega
  rw [sumX_congr e2, sumX_const _ r.y r.b (by omega) (by omega) m (by omega)]
  simp [areaR, h, Int.mul_comm]

/-- How many pixels a list in form has. -/
def areaS (l : List Rc) : Int := (l.map areaR).sum

def Apart (l : List Rc) : Prop := l.Pairwise (fun r s => ∀ x y, ¬ (hasR r x y = true ∧ hasR s x y = true))

theorem sumP_list (n m : Nat) (hn : n = 2097152) (hm : m = 2097152) : ∀ l : List Rc, Apart l → (∀ r ∈ l, emptyR r = false) → sumP (fun x y => ind (pix l x y)) n m = areaS l
  | [], _, _ => by
    have := sumP_zero n m
    exact this
  | r :: l, ha, hf => by
    obtain ⟨h1, h2⟩ := List.pairwise_cons.1 ha
    have ih := sumP_list n m hn hm l h2 (fun s hs => hf s (by simp [hs]))
    have e : ∀ x y, ind (pix (r :: l) x y) = ind (hasR r x y) + ind (pix l x y) := by
      intro x y
      have e1 : pix (r :: l) x y = (hasR r x y || pix l x y) := rfl
      rw [e1]
      cases hr : hasR r x y
      · simp [ind]
      · cases hl : pix l x y
        · simp [ind]
        · obtain ⟨s, hs, hh⟩ := pix_iff.1 hl
          exact absurd ⟨hr, hh⟩ (h1 s hs x y)
    rw [sumP_congr e, sumP_add, ih, sumP_rect (hf r (by simp)) n m hn hm]
    simp [areaS]

theorem Canon.apart : ∀ {bs : List (List Rc)}, Canon bs → Apart bs.flatten
  | [], _ => List.Pairwise.nil
  | b :: bs, h => by
    obtain ⟨⟨t, k, hb, hl⟩, _, hc⟩ := h
    rw [List.flatten_cons]
    refine List.pairwise_append.2 ⟨?_, hc.apart, fun r hr s hs x y => ?_⟩
    · have key : ∀ b : List Rc, Chain b → Apart b := by
        intro b
        induction b with
        | nil => intro _; exact List.Pairwise.nil
        | cons r l ih =>
          intro h
          refine List.pairwise_cons.2 ⟨fun s hs x y hh => ?_, ih h.2.2⟩
          have := h.2.1 s hs
          have h1 := (has_iff.1 hh.1).2.1
          have h2 := (has_iff.1 hh.2).2.1
          omega
      exact key b hb.2.1
    · rintro ⟨h1, h2⟩
      obtain ⟨c, hc, hs⟩ := List.mem_flatten.1 hs
      have := hl c hc s hs
      have := hb.2.2.2 r hr
      have := (has_iff.1 h1).2.2
      have := (has_iff.1 h2).2.2
      omega

theorem area_form (mf : Bool → Bool → Bool) (hff : mf false false = false) (a b : List Rc) : areaS (formL mf a b) = sumP (fun x y => ind (mf (pix a x y) (pix b x y))) 2097152 2097152 := by
  rw [← sumP_list 2097152 2097152 rfl rfl (formL mf a b) (bands_sem mf hff a b).1.apart (form_full mf hff a b)]
  exact sumP_congr (fun x y => by rw [pix_form mf hff]) _ _

theorem area_bound (mf : Bool → Bool → Bool) (hff : mf false false = false) (a b : List Rc) : 0 ≤ areaS (formL mf a b) ∧ areaS (formL mf a b) ≤ 4398046511104 := by
  rw [area_form mf hff]
  have h1 : ∀ n : Nat, ∀ y, 0 ≤ sumX (fun x => ind (mf (pix a x y) (pix b x y))) n ∧ sumX (fun x => ind (mf (pix a x y) (pix b x y))) n ≤ n * 1 := fun n y => sumX_le (fun x => by unfold ind; split <;> omega) n
  have h2 : ∀ n m : Nat, 0 ≤ sumP (fun x y => ind (mf (pix a x y) (pix b x y))) n m ∧ sumP (fun x y => ind (mf (pix a x y) (pix b x y))) n m ≤ m * (n * 1) := fun n m => sumX_le (fun y => h1 n y) m
  have := h2 2097152 2097152
  omega

theorem area_pos' {r : Rc} (h : emptyR r = false) : 1 ≤ areaR r := by
  have hb := emptyR_false.1 h
  have : areaR r = r.a * r.b := by simp [areaR, h]
  rw [this]
  have h1 : 1 * 1 ≤ r.a * r.b := Int.mul_le_mul (by omega) (by omega) (by omega) (by omega)
  omega

theorem len_area : ∀ (l : List Rc), (∀ r ∈ l, emptyR r = false) → (l.length : Int) ≤ areaS l
  | [], _ => by simp [areaS]
  | r :: l, h => by
    have ih := len_area l (fun s hs => h s (by simp [hs]))
    have := area_pos' (h r (by simp))
    simp only [areaS, List.map_cons, List.sum_cons, List.length_cons] at ih ⊢
    omega

/-- A list in form is not longer than there are pixels. -/
theorem form_len (mf : Bool → Bool → Bool) (hff : mf false false = false) (a b : List Rc) : (formL mf a b).length ≤ 4398046511104 := by
  have h1 := len_area (formL mf a b) (form_full mf hff a b)
  have h2 := area_bound mf hff a b
  omega

/-- Areas add up, where pixels do. -/
theorem area_adds {f1 f2 f3 f4 : Bool → Bool → Bool} (h1 : f1 false false = false) (h2 : f2 false false = false) (h3 : f3 false false = false) (h4 : f4 false false = false) {a1 b1 a2 b2 a3 b3 a4 b4 : List Rc}
    (h : ∀ x y, ind (f1 (pix a1 x y) (pix b1 x y)) + ind (f2 (pix a2 x y) (pix b2 x y)) = ind (f3 (pix a3 x y) (pix b3 x y)) + ind (f4 (pix a4 x y) (pix b4 x y))) :
    areaS (formL f1 a1 b1) + areaS (formL f2 a2 b2) = areaS (formL f3 a3 b3) + areaS (formL f4 a4 b4) := by
  rw [area_form f1 h1, area_form f2 h2, area_form f3 h3, area_form f4 h4, ← sumP_add, ← sumP_add]
  exact sumP_congr h _ _

theorem areaS_append (l m : List Rc) : areaS (l ++ m) = areaS l + areaS m := by simp [areaS]
theorem areaS_nonneg : ∀ l : List Rc, 0 ≤ areaS l
  | [] => by simp [areaS]
  | r :: l => by
    have ih := areaS_nonneg l
    have : 0 ≤ areaR r := by
      cases h : emptyR r
      · have := area_pos' h; omega
      · simp [areaR, h]
    simp only [areaS, List.map_cons, List.sum_cons] at ih ⊢
    omega

theorem form_area_zero (mf : Bool → Bool → Bool) (hff : mf false false = false) (a b : List Rc) (h : areaS (formL mf a b) = 0) : formL mf a b = [] := by
  have h1 := len_area (formL mf a b) (form_full mf hff a b)
  exact List.length_eq_zero_iff.1 (by omega)

end Go.Proofs.Ytjigdgfanpeibaa
