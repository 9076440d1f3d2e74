/- Plain facts: the document's rows of columns, and its bands. Nothing here walks. -/
import Derived.Test.YtpddkhhdleknnaaZ28
import Derived.Test.YtpddkhhdleknnaaZ33
namespace Go.Proofs.Ytpddkhhdleknnaa
open Go.RowKit

theorem inX_nil' (z : Int) : inX [] z ↔ False := by simp [inX]

/-- One column more of a row: joined to the last one, if it goes on. -/
def colPut (y h x x' : Int) : List Rc → List Rc
  | [] => [⟨x, y, x' - x, h⟩]
  | [r] => if r.x + r.a = x then [⟨r.x, r.y, x' - r.x, r.b⟩] else [r, ⟨x, y, x' - x, h⟩]
  | r :: s :: l => r :: colPut y h x x' (s :: l)

/-- The row of columns that are meant, from the places from k on. -/
def colsO (F : Int → Bool) (y h : Int) : List Rc → Int → List Int → List Rc
  | band, _, [] => band
  | band, x, x' :: ks => colsO F y h (if F x = true then colPut y h x x' band else band) x' ks

theorem colPut_ne (y h x x' : Int) : ∀ l : List Rc, colPut y h x x' l ≠ []
  | [] => by simp [colPut]
  | [r] => by unfold colPut; split <;> simp
  | r :: s :: l => by simp [colPut]

/-- A row that ends at k, or ahead of it. -/
def RowO (y h k : Int) (l : List Rc) : Prop := Chain l ∧ (∀ r ∈ l, r.y = y ∧ r.b = h) ∧ ∀ r ∈ l, r.x + r.a ≤ k

theorem colPut_row {y h x x' : Int} (hx : x < x') : ∀ {l : List Rc}, RowO y h x l → RowO y h x' (colPut y h x x' l) ∧ (∀ z, inX (colPut y h x x' l) z ↔ inX l z ∨ (x ≤ z ∧ z < x')) ∧ ∀ q, (∀ r ∈ l, q < r.x) → q < x → ∀ r ∈ colPut y h x x' l, q < r.x
  | [], _ => by
    refine ⟨⟨⟨by simp; omega, by simp, trivial⟩, by simp [colPut], by simp [colPut]; omega⟩, fun z => ?_, fun q _ hq r hr => ?_⟩
    · simp only [colPut, inX_cons, inX_nil', or_false, false_or]
      omega
    · simp [colPut] at hr
      subst hr
      exact hq
  | [r], h => by
    obtain ⟨h1, h2, h3⟩ := h
    have e1 := h3 r (by simp)
    have e2 := h2 r (by simp)
    have e3 := h1.1
    unfold colPut
    by_cases e : r.x + r.a = x
    · rw [if_pos e]
      refine ⟨⟨⟨by simp only; omega, by simp, trivial⟩, by simp; exact e2, by simp; omega⟩, fun z => ?_, fun q hq _ s hs => ?_⟩
      · simp only [inX_cons, inX_nil', or_false]
        omega
      · simp at hs
        subst hs
        exact hq r (by simp)
    · rw [if_neg e]
      refine ⟨⟨⟨e3, by simp only [List.mem_singleton]; rintro s rfl; simp only; omega, by simp; omega, by simp, trivial⟩, ?_, ?_⟩, fun z => ?_, fun q hq hq2 s hs => ?_⟩
      · intro s hs
        simp at hs
        rcases hs with rfl | rfl
        · exact e2
        · exact ⟨rfl, rfl⟩
      · intro s hs
        simp at hs
        rcases hs with rfl | rfl
        · omega
        · simp only; omega
      · simp only [inX_cons, inX_nil', or_false]
        omega
      · simp at hs
        rcases hs with rfl | rfl
        · exact hq _ (by simp)
        · exact hq2
  | r :: s :: l, h => by
    obtain ⟨h1, h2, h3⟩ := h
    obtain ⟨i1, i2, i3⟩ := colPut_row (y := y) (h := h) hx (l := s :: l) ⟨h1.2.2, fun q hq => h2 q (by simp at hq ⊢; exact .inr hq), fun q hq => h3 q (by simp at hq ⊢; exact .inr hq)⟩
    have e1 := h3 s (by simp)
    have e2 := h1.2.1 s (by simp)
    have e3 := h1.2.2.1
    have e4 := h1.1
    show RowO y h x' (r :: colPut y h x x' (s :: l)) ∧ (∀ z, inX (r :: colPut y h x x' (s :: l)) z ↔ _) ∧ ∀ q, _ → _ → ∀ t ∈ r :: colPut y h x x' (s :: l), q < t.x
    refine ⟨⟨⟨h1.1, i3 (r.x + r.a) h1.2.1 (by omega), i1.1⟩, fun q hq => ?_, fun q hq => ?_⟩, fun z => ?_, fun q hq hq2 t ht => ?_⟩
    · rcases List.mem_cons.1 hq with rfl | hq
      · exact h2 _ (by simp)
      · exact i1.2.1 q hq
    · rcases List.mem_cons.1 hq with rfl | hq
      · omega
      · exact i1.2.2 q hq
    · rw [inX_cons (l := colPut y h x x' (s :: l)), i2, inX_cons (r := r) (l := s :: l)]
      constructor
      · rintro (h | h | h)
        · exact .inl (.inl h)
        · exact .inl (.inr h)
        · exact .inr h
      · rintro ((h | h) | h)
        · exact .inl h
        · exact .inr (.inl h)
        · exact .inr (.inr h)
    · rcases List.mem_cons.1 ht with rfl | ht
      · exact hq _ (by simp)
      · exact i3 q (fun r' hr' => hq r' (by simp at hr' ⊢; exact .inr hr')) hq2 t ht

/-- Is a place in a column that is meant? -/
def colAt (F : Int → Bool) : Int → List Int → Int → Prop
  | _, [], _ => False
  | x, x' :: ks, z => (x ≤ z ∧ z < x' ∧ F x = true) ∨ colAt F x' ks z

theorem colAt_ge {F : Int → Bool} : ∀ {ks : List Int} {x z : Int}, (x :: ks).Pairwise (· < ·) → colAt F x ks z → x ≤ z
  | [], _, _, _, h => h.elim
  | x' :: ks, x, z, hs, h => by
    rcases h with h | h
    · exact h.1
    · have h1 := colAt_ge (List.pairwise_cons.1 hs).2 h
      have h2 := (List.pairwise_cons.1 hs).1 x' (by simp)
      omega

theorem colsO_row {F : Int → Bool} {y h : Int} : ∀ {ks : List Int} {x : Int} {band : List Rc}, (x :: ks).Pairwise (· < ·) → RowO y h x band →
    (∃ k, RowO y h k (colsO F y h band x ks)) ∧ ∀ z, inX (colsO F y h band x ks) z ↔ inX band z ∨ colAt F x ks z
  | [], x, band, _, hb => ⟨⟨x, hb⟩, fun z => by simp [colsO, colAt]⟩
  | x' :: ks, x, band, hs, hb => by
    have hx := (List.pairwise_cons.1 hs).1 x' (by simp)
    have hs' := (List.pairwise_cons.1 hs).2
    unfold colsO
    by_cases hf : F x = true
    · rw [if_pos hf]
      obtain ⟨c1, c2, -⟩ := colPut_row (y := y) (h := h) hx hb
      obtain ⟨i1, i2⟩ := colsO_row (F := F) hs' c1
      refine ⟨i1, fun z => ?_⟩
      rw [i2, c2]
      simp only [colAt, hf, and_true]
      constructor
      · rintro ((h1 | h1) | h1)
        · exact .inl h1
        · exact .inr (.inl h1)
        · exact .inr (.inr h1)
      · rintro (h1 | h1 | h1)
        · exact .inl (.inl h1)
        · exact .inl (.inr h1)
        · exact .inr h1
    · rw [if_neg hf]
      obtain ⟨i1, i2⟩ := colsO_row (F := F) hs' (show RowO y h x' band from ⟨hb.1, hb.2.1, fun r hr => by have := hb.2.2 r hr; omega⟩)
      refine ⟨i1, fun z => ?_⟩
      rw [i2]
      simp [colAt, hf]

/-- Between two neighbouring places across, a pixel stands for all. -/
theorem pixx_const {a : List Rc} {k k' : Int} {ks : List Int} (hk : ∀ q ∈ ks, k' ≤ q) (H : ∀ r ∈ a, emptyR r = false → (r.x < k ∨ r.x ∈ k :: k' :: ks) ∧ (r.x + r.a < k ∨ r.x + r.a ∈ k :: k' :: ks)) {x y : Int} (h1 : k ≤ x) (h2 : x < k') : pix a x y = pix a k y := by
  rw [Bool.eq_iff_iff, pix_iff, pix_iff]
  have key : ∀ z, z < k ∨ z ∈ k :: k' :: ks → (z ≤ k ∨ k' ≤ z) := by
    intro z hz
    simp only [List.mem_cons] at hz
    rcases hz with h | h | h | h
    · omega
    · omega
    · omega
    · have := hk z h; omega
  constructor
  · rintro ⟨r, hr, hh⟩
    obtain ⟨e, ex, ey⟩ := has_iff.1 hh
    obtain ⟨g1, g2⟩ := H r hr e
    have := key _ g1
    have := key _ g2
    exact ⟨r, hr, has_iff.2 ⟨e, by omega, ey⟩⟩
  · rintro ⟨r, hr, hh⟩
    obtain ⟨e, ex, ey⟩ := has_iff.1 hh
    obtain ⟨g1, g2⟩ := H r hr e
    have := key _ g1
    have := key _ g2
    exact ⟨r, hr, has_iff.2 ⟨e, by omega, ey⟩⟩

/-- The columns that are meant, pixel by pixel. -/
theorem colAt_iff {mf : Bool → Bool → Bool} (hff : mf false false = false) {a b : List Rc} {y : Int} : ∀ {ks : List Int} {x : Int}, (x :: ks).Pairwise (· < ·) →
    (∀ r, r ∈ a ∨ r ∈ b → emptyR r = false → (r.x < x ∨ r.x ∈ x :: ks) ∧ (r.x + r.a < x ∨ r.x + r.a ∈ x :: ks)) →
    ∀ z, x ≤ z → (colAt (fun u => mf (pix a u y) (pix b u y)) x ks z ↔ mf (pix a z y) (pix b z y) = true)
  | [], x, _, H, z, hz => by
    have none : ∀ l : List Rc, (∀ r ∈ l, r ∈ a ∨ r ∈ b) → pix l z y = false := by
      intro l hl
      cases hp : pix l z y
      · rfl
      · obtain ⟨r, hr, hh⟩ := pix_iff.1 hp
        obtain ⟨e, ex, ey⟩ := has_iff.1 hh
        have h2 := (H r (hl r hr) e).2
        simp only [List.mem_singleton] at h2
        omega
    rw [none a (fun r h => .inl h), none b (fun r h => .inr h), hff]
    simp [colAt]
  | x' :: ks, x, hs, H, z, hz => by
    have hx := (List.pairwise_cons.1 hs).1
    have hs' := (List.pairwise_cons.1 hs).2
    have hx' := (List.pairwise_cons.1 hs').1
    by_cases hzx : z < x'
    · have c1 := pixx_const (a := a) (y := y) (fun q hq => by have := hx' q hq; omega) (fun r hr e => H r (.inl hr) e) hz hzx
      have c2 := pixx_const (a := b) (y := y) (fun q hq => by have := hx' q hq; omega) (fun r hr e => H r (.inr hr) e) hz hzx
      rw [c1, c2]
      constructor
      · rintro (h | h)
        · exact h.2.2
        · have := colAt_ge hs' h; omega
      · intro h
        exact .inl ⟨hz, hzx, h⟩
    · have ih := colAt_iff hff (a := a) (b := b) (y := y) hs' (fun r hr e => by
        obtain ⟨g1, g2⟩ := H r hr e
        have h0 := hx x' (by simp)
        constructor
        · rcases g1 with g | g
          · left; omega
          · rcases List.mem_cons.1 g with g | g
            · left; omega
            · exact .inr g
        · rcases g2 with g | g
          · left; omega
          · rcases List.mem_cons.1 g with g | g
            · left; omega
            · exact .inr g) z (by omega)
      rw [← ih]
      constructor
      · rintro (h | h)
        · omega
        · exact h
      · exact .inr

/-- One row of the document's. -/
def colsR (F : Int → Bool) (y h : Int) : List Int → List Rc
  | [] => []
  | x :: ks => colsO F y h [] x ks

theorem rowO_nil (y h k : Int) : RowO y h k [] := ⟨trivial, by simp, by simp⟩

theorem none_left {a b : List Rc} {xs : List Int} {x0 : Int} (H : ∀ r, r ∈ a ∨ r ∈ b → emptyR r = false → r.x ∈ xs) (hx : ∀ q ∈ xs, x0 ≤ q) (l : List Rc) (hl : ∀ r ∈ l, r ∈ a ∨ r ∈ b) {z y : Int} (hz : z < x0) : pix l z y = false := by
  cases hp : pix l z y
  · rfl
  · obtain ⟨r, hr, hh⟩ := pix_iff.1 hp
    obtain ⟨e, ex, ey⟩ := has_iff.1 hh
    have := hx _ (H r (hl r hr) e)
    omega

theorem colsR_sem {mf : Bool → Bool → Bool} (hff : mf false false = false) {a b : List Rc} {xs : List Int} (hs : xs.Pairwise (· < ·)) (H : ∀ r, r ∈ a ∨ r ∈ b → emptyR r = false → r.x ∈ xs ∧ r.x + r.a ∈ xs) (y h : Int) :
    Chain (colsR (fun u => mf (pix a u y) (pix b u y)) y h xs) ∧ (∀ r ∈ colsR (fun u => mf (pix a u y) (pix b u y)) y h xs, r.y = y ∧ r.b = h) ∧ ∀ z, inX (colsR (fun u => mf (pix a u y) (pix b u y)) y h xs) z ↔ mf (pix a z y) (pix b z y) = true := by
  cases xs with
  | nil =>
    refine ⟨trivial, by simp [colsR], fun z => ?_⟩
    have none : ∀ l : List Rc, (∀ r ∈ l, r ∈ a ∨ r ∈ b) → pix l z y = false := fun l hl => none_left (x0 := z + 1) (fun r hr e => (H r hr e).1) (by simp) l hl (by omega)
    rw [none a (fun r h => .inl h), none b (fun r h => .inr h), hff]
    simp [colsR, inX]
  | cons x ks =>
    obtain ⟨⟨k, i1, i2, -⟩, i3⟩ := colsO_row (F := fun u => mf (pix a u y) (pix b u y)) (y := y) (h := h) hs (rowO_nil y h x)
    refine ⟨i1, i2, fun z => ?_⟩
    show inX (colsO _ y h [] x ks) z ↔ _
    rw [i3, inX_nil', false_or]
    by_cases hz : x ≤ z
    · exact colAt_iff hff hs (fun r hr e => ⟨.inr (H r hr e).1, .inr (H r hr e).2⟩) z hz
    · have hge : ∀ q ∈ x :: ks, x ≤ q := fun q hq => by
        rcases List.mem_cons.1 hq with rfl | hq
        · omega
        · have := (List.pairwise_cons.1 hs).1 q hq; omega
      have none : ∀ l : List Rc, (∀ r ∈ l, r ∈ a ∨ r ∈ b) → pix l z y = false := fun l hl => none_left (fun r hr e => (H r hr e).1) hge l hl (by omega)
      rw [none a (fun r h => .inl h), none b (fun r h => .inr h), hff]
      constructor
      · intro h; have := colAt_ge hs h; omega
      · intro h; cases h

/-- The document's rows, one below the other. -/
def rowsO (mf : Bool → Bool → Bool) (a b : List Rc) (xs : List Int) : Int → List Int → List (List Rc)
  | _, [] => []
  | y, y' :: ks => colsR (fun u => mf (pix a u y) (pix b u y)) y (y' - y) xs :: rowsO mf a b xs y' ks

def full (l : List (List Rc)) : List (List Rc) := l.filter (fun st => !st.isEmpty)

theorem rows_sem {mf : Bool → Bool → Bool} (hff : mf false false = false) {a b : List Rc} {xs : List Int} (hs : xs.Pairwise (· < ·)) (Hx : ∀ r, r ∈ a ∨ r ∈ b → emptyR r = false → r.x ∈ xs ∧ r.x + r.a ∈ xs) : ∀ (ks : List Int) (k : Int), (k :: ks).Pairwise (· < ·) →
    (∀ r, r ∈ a ∨ r ∈ b → emptyR r = false → (r.y < k ∨ r.y ∈ k :: ks) ∧ (r.y + r.b < k ∨ r.y + r.b ∈ k :: ks)) →
    Seq k (full (rowsO mf a b xs k ks)) ∧ ∀ x y, k ≤ y → (inB (full (rowsO mf a b xs k ks)) x y ↔ mf (pix a x y) (pix b x y) = true)
  | [], k, _, H => by
    refine ⟨trivial, fun x y hy => ?_⟩
    have none : ∀ l : List Rc, (∀ r ∈ l, r ∈ a ∨ r ∈ b) → pix l x y = false := by
      intro l hl
      cases hp : pix l x y
      · rfl
      · obtain ⟨r, hr, hh⟩ := pix_iff.1 hp
        obtain ⟨e, ex, ey⟩ := has_iff.1 hh
        have h2 := (H r (hl r hr) e).2
        simp only [List.mem_singleton] at h2
        omega
    rw [none a (fun r h => .inl h), none b (fun r h => .inr h), hff]
    simp [rowsO, full, inB]
  | k' :: ks, k, hk, H => by
    have hk1 := (List.pairwise_cons.1 hk).1
    have hk2 := (List.pairwise_cons.1 hk).2
    have hk3 := (List.pairwise_cons.1 hk2).1
    have hkk := hk1 k' (by simp)
    obtain ⟨i1, i2⟩ := rows_sem hff hs Hx ks k' hk2 (fun r hr e => by
        obtain ⟨g1, g2⟩ := H r hr e
        constructor
        · rcases g1 with g | g
          · left; omega
          · rcases List.mem_cons.1 g with g | g
            · left; omega
            · exact .inr g
        · rcases g2 with g | g
          · left; omega
          · rcases List.mem_cons.1 g with g | g
            · left; omega
            · exact .inr g)
    obtain ⟨c1, c2, c3⟩ := colsR_sem hff hs Hx k (k' - k)
    have hpix : ∀ x y, k ≤ y → y < k' → (mf (pix a x y) (pix b x y) = mf (pix a x k) (pix b x k)) := fun x y h1 h2 => by
      rw [pix_const (a := a) (x := x) (fun q hq => by have := hk3 q hq; omega) (fun r hr e => H r (.inl hr) e) h1 h2, pix_const (a := b) (x := x) (fun q hq => by have := hk3 q hq; omega) (fun r hr e => H r (.inr hr) e) h1 h2]
    have hlow := i1.low
    obtain ⟨st, hst⟩ : ∃ st, colsR (fun u => mf (pix a u k) (pix b u k)) k (k' - k) xs = st := ⟨_, rfl⟩
    rw [hst] at c1 c2 c3
    have hdef : rowsO mf a b xs k (k' :: ks) = st :: rowsO mf a b xs k' ks := by rw [← hst]; rfl
    rw [hdef]
    by_cases he : st = []
    · have hf : full (st :: rowsO mf a b xs k' ks) = full (rowsO mf a b xs k' ks) := by rw [he]; rfl
      rw [hf]
      refine ⟨i1.mono (by omega), fun x y hy => ?_⟩
      by_cases hyk : k' ≤ y
      · exact i2 x y hyk
      · have h1 := hpix x y hy (by omega)
        have h2 := c3 x
        rw [he, inX_nil'] at h2
        rw [h1]
        constructor
        · intro h; exact (low_none hlow (by omega) h).elim
        · intro h; exact (h2.2 h).elim
    · have hf : full (st :: rowsO mf a b xs k' ks) = st :: full (rowsO mf a b xs k' ks) := by
        cases st with
        | nil => exact absurd rfl he
        | cons r l => rfl
      have hB : Band st k (k' - k) := ⟨he, c1, by omega, c2⟩
      rw [hf]
      refine ⟨⟨k, k' - k, hB, by omega, by rw [show k + (k' - k) = k' by omega]; exact i1⟩, fun x y hy => ?_⟩
      rw [inB_cons, hB.row, c3]
      by_cases hyk : k' ≤ y
      · rw [i2 x y hyk]
        constructor
        · rintro (h | h)
          · omega
          · exact h
        · exact .inr
      · rw [hpix x y hy (by omega)]
        constructor
        · rintro (h | h)
          · exact h.1
          · exact (low_none hlow (by omega) h).elim
        · intro h; exact .inl ⟨h, hy, by omega⟩

end Go.Proofs.Ytpddkhhdleknnaa
