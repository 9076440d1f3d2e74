/- Several texts in one, each with its own head. -/
import Derived.Test.YtajoipmchgabfaaGreatT19
import Derived.Test.YtajoipmchgabfaaGreatT3
import Derived.Test.YtajoipmchgabfaaGreatT2
import Derived.Test.YtajoipmchgabfaaGreatT4
/- Plain facts: how many pixels a list in form has. -/
namespace Go.Proofs.YtajoipmchgabfaaGreat

/-- A sum over places, from -1048576 on. -/
def sumX (f : Int → Int) : Nat → Int
  | 0 => 0
  | n + 1 => sumX f n + f (-1048576 + n)

theorem sumX_add (f g : Int → Int) (n : Nat) : sumX (fun x => f x + g x) n = sumX f n + sumX g n := by
  induction n with
  | zero => rfl
  | succ n ih => simp only [sumX, ih]; omega
theorem sumX_congr {f g : Int → Int} (h : ∀ x, f x = g x) (n : Nat) : sumX f n = sumX g n := by rw [funext h]
theorem sumX_le {f : Int → Int} {k : Int} (h : ∀ x, 0 ≤ f x ∧ f x ≤ k) (n : Nat) : 0 ≤ sumX f n ∧ sumX f n ≤ n * k := by
  induction n with
  | zero => simp [sumX]
  | succ n ih =>
    have h1 := h (-1048576 + n)
    simp only [sumX]
    rw [Int.natCast_add, Int.add_mul]
    omega
theorem sumX_const (k : Int) (f s : Int) (hf : -1048576 ≤ f) (hs : 0 ≤ s) (n : Nat) (hn : f + s ≤ -1048576 + n) : sumX (fun x => if f ≤ x ∧ x < f + s then k else 0) n = s * k := by
  have key : ∀ n : Nat, sumX (fun x => if f ≤ x ∧ x < f + s then k else 0) n = (max 0 (min (f + s) (-1048576 + n) - f)) * k := by
    intro n
    induction n with
    | zero =>
      have : max 0 (min (f + s) (-1048576 + ((0 : Nat) : Int)) - f) = 0 := by omega
      rw [this]; simp [sumX]
    | succ n ih =>
      simp only [sumX]
      rw [ih]
      by_cases h : f ≤ -1048576 + (n : Int) ∧ -1048576 + (n : Int) < f + s
      · rw [if_pos h]
        have : max 0 (min (f + s) (-1048576 + ((n + 1 : Nat) : Int)) - f) = max 0 (min (f + s) (-1048576 + (n : Int)) - f) + 1 := by omega
        rw [this, Int.add_mul]; omega
      · rw [if_neg h]
        have : max 0 (min (f + s) (-1048576 + ((n + 1 : Nat) : Int)) - f) = max 0 (min (f + s) (-1048576 + (n : Int)) - f) := by omega
        rw [this]; omega
  rw [key n]
  have : max 0 (min (f + s) (-1048576 + (n : Int)) - f) = s := by omega
  rw [this]

/-- A sum over pixels. -/
def sumP (f : Int → Int → Int) (n m : Nat) : Int := sumX (fun y => sumX (fun x => f x y) n) m

theorem sumP_add (f g : Int → Int → Int) (n m : Nat) : sumP (fun x y => f x y + g x y) n m = sumP f n m + sumP g n m := by
  unfold sumP
  rw [← sumX_add]
  exact sumX_congr (fun y => sumX_add _ _ _) m
theorem sumP_congr {f g : Int → Int → Int} (h : ∀ x y, f x y = g x y) (n m : Nat) : sumP f n m = sumP g n m := by
  rw [show f = g from funext fun x => funext fun y => h x y]
theorem sumP_zero (n m : Nat) : sumP (fun _ _ => 0) n m = 0 := by
  have h1 : ∀ n, sumX (fun _ => 0) n = 0 := by
    intro n
    induction n with
    | zero => rfl
    | succ n ih => simp [sumX, ih]
  unfold sumP
  rw [sumX_congr (g := fun _ => 0) (fun y => h1 n), h1]

def ind (p : Bool) : Int := if p = true then 1 else 0

theorem sumP_rect {r : Rc} (h : emptyR r = false) (n m : Nat) (hn : n = 2097152) (hm : m = 2097152) : sumP (fun x y => ind (hasR r x y)) n m = areaR r := by
  have hb := emptyR_false.1 h
  have e : ∀ x y, ind (hasR r x y) = if r.x ≤ x ∧ x < r.x + r.a then (if r.y ≤ y ∧ y < r.y + r.b then 1 else 0) else 0 := by
    intro x y
    unfold ind
    by_cases h1 : r.x ≤ x ∧ x < r.x + r.a
    · by_cases h2 : r.y ≤ y ∧ y < r.y + r.b
      · rw [if_pos h1, if_pos h2, if_pos (has_iff.2 ⟨h, h1, h2⟩)]
      · rw [if_pos h1, if_neg h2, if_neg (fun hh => h2 (has_iff.1 hh).2.2)]
    · rw [if_neg h1, if_neg (fun hh => h1 (has_iff.1 hh).2.1)]
  unfold sumP
  have e2 : ∀ y, sumX (fun x => ind (hasR r x y)) n = if r.y ≤ y ∧ y < r.y + r.b then r.a else 0 := by
    intro y
    rw [sumX_congr (fun x => e x y), sumX_const _ r.x r.a (by omega) (by omega) n (by omega)]
    split <;> omega
  rw [sumX_congr e2, sumX_const _ r.y r.b (by omega) (by omega) m (by omega)]
  simp [areaR, h, Int.mul_comm]

/-- How many pixels a list in form has. -/
def areaS (l : List Rc) : Int := (l.map areaR).sum

def Apart (l : List Rc) : Prop := l.Pairwise (fun r s => ∀ x y, ¬ (hasR r x y = true ∧ hasR s x y = true))

theorem sumP_list (n m : Nat) (hn : n = 2097152) (hm : m = 2097152) : ∀ l : List Rc, Apart l → (∀ r ∈ l, emptyR r = false) → sumP (fun x y => ind (pix l x y)) n m = areaS l
  | [], _, _ => by
    have := sumP_zero n m
    exact this
  | r :: l, ha, hf => by
    obtain ⟨h1, h2⟩ := List.pairwise_cons.1 ha
    have ih := sumP_list n m hn hm l h2 (fun s hs => hf s (by simp [hs]))
    have e : ∀ x y, ind (pix (r :: l) x y) = ind (hasR r x y) + ind (pix l x y) := by
      intro x y
      have e1 : pix (r :: l) x y = (hasR r x y || pix l x y) := rfl
      rw [e1]
      cases hr : hasR r x y
      · simp [ind]
      · cases hl : pix l x y
        · simp [ind]
        · obtain ⟨s, hs, hh⟩ := pix_iff.1 hl
          exact absurd ⟨hr, hh⟩ (h1 s hs x y)
    rw [sumP_congr e, sumP_add, ih, sumP_rect (hf r (by simp)) n m hn hm]
    simp [areaS]

theorem Canon.apart : ∀ {bs : List (List Rc)}, Canon bs → Apart bs.flatten
  | [], _ => List.Pairwise.nil
  | b :: bs, h => by
    obtain ⟨⟨t, k, hb, hl⟩, _, hc⟩ := h
    rw [List.flatten_cons]
    refine List.pairwise_append.2 ⟨?_, hc.apart, fun r hr s hs x y => ?_⟩
    · have key : ∀ b : List Rc, Chain b → Apart b := by
        intro b
        induction b with
        | nil => intro _; exact List.Pairwise.nil
        | cons r l ih =>
          intro h
          refine List.pairwise_cons.2 ⟨fun s hs x y hh => ?_, ih h.2.2⟩
          have := h.2.1 s hs
          have h1 := (has_iff.1 hh.1).2.1
          have h2 := (has_iff.1 hh.2).2.1
          omega
      exact key b hb.2.1
    · rintro ⟨h1, h2⟩
      obtain ⟨c, hc, hs⟩ := List.mem_flatten.1 hs
      have := hl c hc s hs
      have := hb.2.2.2 r hr
      have := (has_iff.1 h1).2.2
      have := (has_iff.1 h2).2.2
      omega

theorem area_form (mf : Bool → Bool → Bool) (hff : mf false false = false) (a b : List Rc) : areaS (formL mf a b) = sumP (fun x y => ind (mf (pix a x y) (pix b x y))) 2097152 2097152 := by
  rw [← sumP_list 2097152 2097152 rfl rfl (formL mf a b) (bands_sem mf hff a b).1.apart (form_full mf hff a b)]
  exact sumP_congr (fun x y => by rw [pix_form mf hff]) _ _

theorem area_bound (mf : Bool → Bool → Bool) (hff : mf false false = false) (a b : List Rc) : 0 ≤ areaS (formL mf a b) ∧ areaS (formL mf a b) ≤ 4398046511104 := by
  rw [area_form mf hff]
  have h1 : ∀ n : Nat, ∀ y, 0 ≤ sumX (fun x => ind (mf (pix a x y) (pix b x y))) n ∧ sumX (fun x => ind (mf (pix a x y) (pix b x y))) n ≤ n * 1 := fun n y => sumX_le (fun x => by unfold ind; split <;> omega) n
  have h2 : ∀ n m : Nat, 0 ≤ sumP (fun x y => ind (mf (pix a x y) (pix b x y))) n m ∧ sumP (fun x y => ind (mf (pix a x y) (pix b x y))) n m ≤ m * (n * 1) := fun n m => sumX_le (fun y => h1 n y) m
  have := h2 2097152 2097152
  omega

theorem area_pos' {r : Rc} (h : emptyR r = false) : 1 ≤ areaR r := by
  have hb := emptyR_false.1 h
  have : areaR r = r.a * r.b := by simp [areaR, h]
  rw [this]
  have h1 : 1 * 1 ≤ r.a * r.b := Int.mul_le_mul (by omega) (by omega) (by omega) (by omega)
  omega

theorem len_area : ∀ (l : List Rc), (∀ r ∈ l, emptyR r = false) → (l.length : Int) ≤ areaS l
  | [], _ => by simp [areaS]
  | r :: l, h => by
    have ih := len_area l (fun s hs => h s (by simp [hs]))
    have := area_pos' (h r (by simp))
    simp only [areaS, List.map_cons, List.sum_cons, List.length_cons] at ih ⊢
    omega

/-- A list in form is not longer than there are pixels. -/
theorem form_len (mf : Bool → Bool → Bool) (hff : mf false false = false) (a b : List Rc) : (formL mf a b).length ≤ 4398046511104 := by
  have h1 := len_area (formL mf a b) (form_full mf hff a b)
  have h2 := area_bound mf hff a b
  omega

/-- Areas add up, where pixels do. -/
theorem area_adds {f1 f2 f3 f4 : Bool → Bool → Bool} (h1 : f1 false false = false) (h2 : f2 false false = false) (h3 : f3 false false = false) (h4 : f4 false false = false) {a1 b1 a2 b2 a3 b3 a4 b4 : List Rc}
    (h : ∀ x y, ind (f1 (pix a1 x y) (pix b1 x y)) + ind (f2 (pix a2 x y) (pix b2 x y)) = ind (f3 (pix a3 x y) (pix b3 x y)) + ind (f4 (pix a4 x y) (pix b4 x y))) :
    areaS (formL f1 a1 b1) + areaS (formL f2 a2 b2) = areaS (formL f3 a3 b3) + areaS (formL f4 a4 b4) := by
  rw [area_form f1 h1, area_form f2 h2, area_form f3 h3, area_form f4 h4, ← sumP_add, ← sumP_add]
  exact sumP_congr h _ _

theorem areaS_append (l m : List Rc) : areaS (l ++ m) = areaS l + areaS m := by simp [areaS]
theorem areaS_nonneg : ∀ l : List Rc, 0 ≤ areaS l
  | [] => by simp [areaS]
  | r :: l => by
    have ih := areaS_nonneg l
    have : 0 ≤ areaR r := by
      cases h : emptyR r
      · have := area_pos' h; omega
      · simp [areaR, h]
    simp only [areaS, List.map_cons, List.sum_cons] at ih ⊢
    omega

theorem form_area_zero (mf : Bool → Bool → Bool) (hff : mf false false = false) (a b : List Rc) (h : areaS (formL mf a b) = 0) : formL mf a b = [] := by
  have h1 := len_area (formL mf a b) (form_full mf hff a b)
  exact List.length_eq_zero_iff.1 (by omega)

end Go.Proofs.YtajoipmchgabfaaGreat

/- tiles, plainly: a size's tiles, those under a part, the pieces of a list by their tiles. Nothing here speaks of a program. -/
namespace Go.Proofs.YtajoipmchgabfaaGreat

/-- A size that may be; of another one nothing. -/
def okS (w h : Int) : Prop := 1 ≤ w ∧ w ≤ 256 ∧ 1 ≤ h ∧ h ≤ 256
instance (w h : Int) : Decidable (okS w h) := by unfold okS; infer_instance
def szW (w h : Int) : Nat := if okS w h then w.toNat else 0
def szH (w h : Int) : Nat := if okS w h then h.toNat else 0
theorem szW_le (w h : Int) : szW w h ≤ 256 := by
  unfold szW
  split
  · rename_i k; unfold okS at k; omega
  · omega
theorem szH_le (w h : Int) : szH w h ≤ 256 := by
  unfold szH
  split
  · rename_i k; unfold okS at k; omega
  · omega
theorem sz_both (w h : Int) : (szW w h = 0 ∧ szH w h = 0 ∧ ¬ okS w h) ∨ (0 < szW w h ∧ 0 < szH w h ∧ okS w h ∧ w = szW w h ∧ h = szH w h) := by
  unfold szW szH
  by_cases h : okS w h
  · rw [if_pos h, if_pos h]; have h' := h; unfold okS at h'; right; refine ⟨by omega, by omega, h, by omega, by omega⟩
  · rw [if_neg h, if_neg h]; left; exact ⟨rfl, rfl, h⟩

def pcR (w h : Nat) : Rc := ⟨0, 0, w, h⟩
def clN (w : Nat) : Nat := (w + 15) / 16
def fullT (q r : Nat) : Rc := ⟨(q : Int) * 16, (r : Int) * 16, 16, 16⟩
def til (w h q r : Nat) : Rc := andR (fullT q r) (pcR w h)
/-- The tile of a number. -/
def tlR (w h i : Nat) : Rc := til w h (i % clN w) (i / clN w)
/-- How many. -/
def tlN (w h : Nat) : Nat := clN h * clN w
/-- The tiles of one row of tiles, and of those behind it. -/
def rowT (w h r q n : Nat) : List (Nat × Rc) := (List.range' q n).map fun k => (r * clN w + k, til w h k r)
def rowsT (w h r m q n : Nat) : List (Nat × Rc) := (List.range' r m).flatMap fun k => rowT w h k q n
/-- The tiles that have pixels of a part. -/
def unL (w h X Y A B : Nat) : List (Nat × Rc) := rowsT w h (Y / 16) ((Y + B + 15) / 16 - Y / 16) (X / 16) ((X + A + 15) / 16 - X / 16)
def unR (w h : Nat) (p : Rc) : List (Nat × Rc) := unL w h p.x.toNat p.y.toNat p.a.toNat p.b.toNat

/-- A part that lies within a picture, and has a pixel. -/
structure InP (w h : Nat) (p : Rc) : Prop where
  x : 0 ≤ p.x
  y : 0 ≤ p.y
  a : 0 < p.a
  b : 0 < p.b
  w : p.x + p.a ≤ w
  h : p.y + p.b ≤ h

theorem til_has {w h q r : Nat} (hw : w ≤ 256) (hh : h ≤ 256) (hq : 16 * q < w) (hr : 16 * r < h) (x y : Int) : hasR (til w h q r) x y = true ↔ (16 * q ≤ x ∧ x < 16 * q + 16 ∧ x < w) ∧ (16 * r ≤ y ∧ y < 16 * r + 16 ∧ y < h) := by
  unfold til
  rw [has_and, Bool.and_eq_true, has_iff, has_iff, emptyR_false, emptyR_false]
  simp only [fullT, pcR]
  omega
theorem til_full {w h q r : Nat} (hw : w ≤ 256) (hh : h ≤ 256) (hq : 16 * q < w) (hr : 16 * r < h) : emptyR (til w h q r) = false := by
  have := (til_has hw hh hq hr (16 * q) (16 * r)).2 (by omega)
  exact (has_iff.1 this).1

theorem mem_unR {w h : Nat} {p : Rc} (hp : InP w h p) {e : Nat × Rc} : e ∈ unR w h p ↔ ∃ q r : Nat, e = (r * clN w + q, til w h q r) ∧ (p.x < 16 * q + 16 ∧ 16 * q < p.x + p.a) ∧ (p.y < 16 * r + 16 ∧ 16 * r < p.y + p.b) := by
  obtain ⟨h1, h2, h3, h4, h5, h6⟩ := hp
  unfold unR unL rowsT rowT
  simp only [List.mem_flatMap, List.mem_map, List.mem_range'_1]
  constructor
  · rintro ⟨r, hr, q, hq, rfl⟩
    exact ⟨q, r, rfl, by omega, by omega⟩
  · rintro ⟨q, r, rfl, hq, hr⟩
    exact ⟨r, by omega, q, by omega, rfl⟩
theorem num_parts {c q r : Nat} (h : q < c) : (r * c + q) % c = q ∧ (r * c + q) / c = r := by
  constructor
  · rw [Nat.mul_comm, Nat.mul_add_mod, Nat.mod_eq_of_lt h]
  · rw [Nat.mul_comm, Nat.mul_add_div (by omega), Nat.div_eq_of_lt h, Nat.add_zero]
theorem unR_tile {w h : Nat} {p : Rc} (hp : InP w h p) {e : Nat × Rc} (he : e ∈ unR w h p) : e.1 < tlN w h ∧ e.2 = tlR w h e.1 := by
  obtain ⟨q, r, rfl, hq, hr⟩ := (mem_unR hp).1 he
  obtain ⟨h1, h2, h3, h4, h5, h6⟩ := hp
  have hqc : q < clN w := by unfold clN; omega
  have hrc : r < clN h := by unfold clN; omega
  obtain ⟨e1, e2⟩ := num_parts (r := r) hqc
  refine ⟨?_, ?_⟩
  · show r * clN w + q < clN h * clN w
    have : (r + 1) * clN w ≤ clN h * clN w := Nat.mul_le_mul_right _ hrc
    rw [Nat.add_mul] at this; omega
  · show til w h q r = tlR w h (r * clN w + q)
    unfold tlR; rw [e1, e2]

/-- The pieces of parts, with their tiles' numbers; those of one tile. -/
def pcsE (w h : Nat) (p : Rc) : List (Nat × Rc) := (unR w h p).map fun e => (e.1, andR p e.2)
def pcsL (w h : Nat) (ps : List Rc) : List (Nat × Rc) := ps.flatMap (pcsE w h)
def ofN (E : List (Nat × Rc)) (i : Nat) : List Rc := (E.filter fun e => e.1 == i).map (·.2)
theorem ofN_append (E F : List (Nat × Rc)) (i : Nat) : ofN (E ++ F) i = ofN E i ++ ofN F i := by unfold ofN; rw [List.filter_append, List.map_append]
theorem ofN_one (j : Nat) (r : Rc) (i : Nat) : ofN [(j, r)] i = if j = i then [r] else [] := by
  unfold ofN
  by_cases h : j = i
  · simp [h]
  · simp [h]
theorem mem_ofN {E : List (Nat × Rc)} {i : Nat} {r : Rc} : r ∈ ofN E i ↔ (i, r) ∈ E := by
  unfold ofN
  simp only [List.mem_map, List.mem_filter, beq_iff_eq]
  constructor
  · rintro ⟨⟨j, s⟩, ⟨h1, h2⟩, h3⟩
    simp only at h2 h3
    subst h2 h3; exact h1
  · intro h; exact ⟨(i, r), ⟨h, rfl⟩, rfl⟩

theorem pcs_mem {w h : Nat} (hw : w ≤ 256) (hh : h ≤ 256) {ps : List Rc} (hp : ∀ p ∈ ps, InP w h p) {i : Nat} {s : Rc} (hs : s ∈ ofN (pcsL w h ps) i) : i < tlN w h ∧ emptyR s = false ∧ ∃ p ∈ ps, s = andR p (tlR w h i) := by
  rw [mem_ofN] at hs
  unfold pcsL pcsE at hs
  simp only [List.mem_flatMap, List.mem_map] at hs
  obtain ⟨p, hpm, e, he, heq⟩ := hs
  obtain ⟨e1, e2⟩ := unR_tile (hp p hpm) he
  obtain ⟨q, r, rfl, hq, hr⟩ := (mem_unR (hp p hpm)).1 he
  simp only [Prod.mk.injEq] at heq
  obtain ⟨rfl, rfl⟩ := heq
  simp only at e1 e2
  refine ⟨e1, ?_, p, hpm, by rw [e2]⟩
  obtain ⟨h1, h2, h3, h4, h5, h6⟩ := hp p hpm
  have hpe : emptyR p = false := by rw [emptyR_false]; omega
  have hx : hasR (andR p (til w h q r)) (max p.x (16 * q)) (max p.y (16 * r)) = true := by
    rw [has_and, Bool.and_eq_true, til_has hw hh (by omega) (by omega), has_iff]
    exact ⟨⟨hpe, by omega, by omega⟩, by omega, by omega⟩
  exact (has_iff.1 hx).1

theorem pcs_pix {w h : Nat} (hw : w ≤ 256) (hh : h ≤ 256) {ps : List Rc} (hp : ∀ p ∈ ps, InP w h p) {i : Nat} (hi : i < tlN w h) (x y : Int) : pix (ofN (pcsL w h ps) i) x y = (pix ps x y && hasR (tlR w h i) x y) := by
  rw [Bool.eq_iff_iff, Bool.and_eq_true, pix_iff, pix_iff]
  have hc : 0 < clN w := by
    unfold tlN at hi
    exact Nat.pos_of_ne_zero (fun e => by rw [e] at hi; simp at hi)
  have hqc : i % clN w < clN w := Nat.mod_lt _ hc
  have hrc : i / clN w < clN h := Nat.div_lt_of_lt_mul (by unfold tlN at hi; rw [Nat.mul_comm]; exact hi)
  have hq16 : 16 * (i % clN w) < w := by unfold clN at hqc ⊢; omega
  have hr16 : 16 * (i / clN w) < h := by
    have h1 : 16 * (i / clN w) < 16 * clN h := by omega
    have h2 : clN h = (h + 15) / 16 := rfl
    omega
  constructor
  · rintro ⟨s, hs, hx⟩
    obtain ⟨-, -, p, hpm, rfl⟩ := pcs_mem hw hh hp hs
    rw [has_and, Bool.and_eq_true] at hx
    exact ⟨⟨p, hpm, hx.1⟩, hx.2⟩
  · rintro ⟨⟨p, hpm, hx⟩, ht⟩
    refine ⟨andR p (tlR w h i), ?_, by rw [has_and, hx, ht]; rfl⟩
    rw [mem_ofN]
    unfold pcsL pcsE
    simp only [List.mem_flatMap, List.mem_map]
    have h1 := (til_has hw hh hq16 hr16 x y).1 ht
    have h2 := has_iff.1 hx
    refine ⟨p, hpm, (i, tlR w h i), (mem_unR (hp p hpm)).2 ⟨i % clN w, i / clN w, ?_, by omega, by omega⟩, rfl⟩
    rw [Nat.mul_comm, Nat.div_add_mod]; rfl

/-- All of a size. -/
theorem rowT_all (w h r n : Nat) (hn : n ≤ clN w) : rowT w h r 0 n = (List.range n).map fun k => (r * clN w + k, tlR w h (r * clN w + k)) := by
  unfold rowT
  rw [← List.range_eq_range']
  refine List.map_congr_left fun k hk => ?_
  have hk' : k < clN w := by have := List.mem_range.1 hk; omega
  obtain ⟨e1, e2⟩ := num_parts (r := r) hk'
  unfold tlR; rw [e1, e2]
theorem rowsT_all (w h m : Nat) : rowsT w h 0 m 0 (clN w) = (List.range (m * clN w)).map fun i => (i, tlR w h i) := by
  unfold rowsT
  rw [← List.range_eq_range']
  induction m with
  | zero => simp
  | succ m ih =>
    rw [List.range_succ, List.flatMap_append, ih, List.flatMap_singleton, rowT_all w h m _ (Nat.le_refl _), Nat.add_mul, Nat.one_mul, List.range_add, List.map_append, List.map_map]
    rfl
theorem unR_all (w h : Nat) : unR w h (pcR w h) = (List.range (tlN w h)).map fun i => (i, tlR w h i) := by
  have e : unR w h (pcR w h) = rowsT w h 0 (clN h) 0 (clN w) := by
    unfold unR unL pcR clN
    simp
  rw [e, rowsT_all]; rfl

/-- The parts of a list within a picture. -/
def wiL (w h : Nat) (l : List Rc) : List Rc := (l.map fun r => andR r (pcR w h)).filter fun r => !emptyR r
theorem wiL_pix (w h : Nat) (l : List Rc) (x y : Int) : pix (wiL w h l) x y = (pix l x y && hasR (pcR w h) x y) := by
  rw [Bool.eq_iff_iff, Bool.and_eq_true, pix_iff, pix_iff]
  unfold wiL
  simp only [List.mem_filter, List.mem_map]
  constructor
  · rintro ⟨s, ⟨⟨r, hr, rfl⟩, -⟩, hx⟩
    rw [has_and, Bool.and_eq_true] at hx
    exact ⟨⟨r, hr, hx.1⟩, hx.2⟩
  · rintro ⟨⟨r, hr, hx⟩, hp⟩
    have hh : hasR (andR r (pcR w h)) x y = true := by rw [has_and, hx, hp]; rfl
    exact ⟨_, ⟨⟨r, hr, rfl⟩, by rw [(has_iff.1 hh).1]; rfl⟩, hh⟩
theorem wiL_len (w h : Nat) (l : List Rc) : (wiL w h l).length ≤ l.length := by
  unfold wiL
  exact Nat.le_trans (List.length_filter_le _ _) (by simp)
theorem wiL_fit (w h : Nat) (l : List Rc) : ∀ r ∈ wiL w h l, Fit r := by
  intro r hr
  unfold wiL at hr
  simp only [List.mem_filter, List.mem_map] at hr
  obtain ⟨⟨s, -, rfl⟩, -⟩ := hr
  exact and_fit _ _
/-- A list in form whose pixels lie within a picture lies within it. -/
theorem inP_of {w h : Nat} {l : List Rc} (hf : ∀ r ∈ l, emptyR r = false) (hx : ∀ x y, pix l x y = true → hasR (pcR w h) x y = true) : ∀ r ∈ l, InP w h r := by
  intro r hr
  obtain ⟨c1, c2, -, -⟩ := corner_has (hf r hr)
  have d1 := hx _ _ (pix_iff.2 ⟨r, hr, c1⟩)
  have d2 := hx _ _ (pix_iff.2 ⟨r, hr, c2⟩)
  rw [has_iff] at d1 d2
  have e := emptyR_false.1 (hf r hr)
  simp only [pcR] at d1 d2
  exact ⟨by omega, by omega, by omega, by omega, by omega, by omega⟩

end Go.Proofs.YtajoipmchgabfaaGreat

/- The walk of package rect's In: what it answers. -/
namespace Go.Proofs.YtajoipmchgabfaaGreat
open Go.RowKit

theorem Lies.after {w : World} {B : Nat} {r : Rc} (h : Lies w B r) (n : After w) : Lies n.world B r := h.later n.below

end Go.Proofs.YtajoipmchgabfaaGreat
