/- Several texts in one, each with its own head. -/
import Derived.Test.YtajoipmchgabfaaGreatT26
/- Plain facts: the document's rows of columns, and its bands. Nothing here walks. -/
namespace Go.Proofs.YtajoipmchgabfaaGreat
open Go.RowKit

theorem inX_nil' (z : Int) : inX [] z ↔ False := by simp [inX]

/-- One column more of a row: joined to the last one, if it goes on. -/
def colPut (y h x x' : Int) : List Rc → List Rc
  | [] => [⟨x, y, x' - x, h⟩]
  | [r] => if r.x + r.a = x then [⟨r.x, r.y, x' - r.x, r.b⟩] else [r, ⟨x, y, x' - x, h⟩]
  | r :: s :: l => r :: colPut y h x x' (s :: l)

/-- The row of columns that are meant, from the places from k on. -/
def colsO (F : Int → Bool) (y h : Int) : List Rc → Int → List Int → List Rc
  | band, _, [] => band
  | band, x, x' :: ks => colsO F y h (if F x = true then colPut y h x x' band else band) x' ks

theorem colPut_ne (y h x x' : Int) : ∀ l : List Rc, colPut y h x x' l ≠ []
  | [] => by simp [colPut]
  | [r] => by unfold colPut; split <;> simp
  | r :: s :: l => by simp [colPut]

/-- A row that ends at k, or ahead of it. -/
def RowO (y h k : Int) (l : List Rc) : Prop := Chain l ∧ (∀ r ∈ l, r.y = y ∧ r.b = h) ∧ ∀ r ∈ l, r.x + r.a ≤ k

theorem colPut_row {y h x x' : Int} (hx : x < x') : ∀ {l : List Rc}, RowO y h x l → RowO y h x' (colPut y h x x' l) ∧ (∀ z, inX (colPut y h x x' l) z ↔ inX l z ∨ (x ≤ z ∧ z < x')) ∧ ∀ q, (∀ r ∈ l, q < r.x) → q < x → ∀ r ∈ colPut y h x x' l, q < r.x
  | [], _ => by
    refine ⟨⟨⟨by simp; omega, by simp, trivial⟩, by simp [colPut], by simp [colPut]; omega⟩, fun z => ?_, fun q _ hq r hr => ?_⟩
    · simp only [colPut, inX_cons, inX_nil', or_false, false_or]
      omega
    · simp [colPut] at hr
      subst hr
      exact hq
  | [r], h => by
    obtain ⟨h1, h2, h3⟩ := h
    have e1 := h3 r (by simp)
    have e2 := h2 r (by simp)
    have e3 := h1.1
    unfold colPut
    by_cases e : r.x + r.a = x
    · rw [if_pos e]
      refine ⟨⟨⟨by simp only; omega, by simp, trivial⟩, by simp; exact e2, by simp; omega⟩, fun z => ?_, fun q hq _ s hs => ?_⟩
      · simp only [inX_cons, inX_nil', or_false]
        omega
      · simp at hs
        subst hs
        exact hq r (by simp)
    · rw [if_neg e]
      refine ⟨⟨⟨e3, by simp only [List.mem_singleton]; rintro s rfl; simp only; omega, by simp; omega, by simp, trivial⟩, ?_, ?_⟩, fun z => ?_, fun q hq hq2 s hs => ?_⟩
      · intro s hs
        simp at hs
        rcases hs with rfl | rfl
        · exact e2
        · exact ⟨rfl, rfl⟩
      · intro s hs
        simp at hs
        rcases hs with rfl | rfl
        · omega
        · simp only; omega
      · simp only [inX_cons, inX_nil', or_false]
        omega
      · simp at hs
        rcases hs with rfl | rfl
        · exact hq _ (by simp)
        · exact hq2
  | r :: s :: l, h => by
    obtain ⟨h1, h2, h3⟩ := h
    obtain ⟨i1, i2, i3⟩ := colPut_row (y := y) (h := h) hx (l := s :: l) ⟨h1.2.2, fun q hq => h2 q (by simp at hq ⊢; exact .inr hq), fun q hq => h3 q (by simp at hq ⊢; exact .inr hq)⟩
    have e1 := h3 s (by simp)
    have e2 := h1.2.1 s (by simp)
    have e3 := h1.2.2.1
    have e4 := h1.1
    show RowO y h x' (r :: colPut y h x x' (s :: l)) ∧ (∀ z, inX (r :: colPut y h x x' (s :: l)) z ↔ _) ∧ ∀ q, _ → _ → ∀ t ∈ r :: colPut y h x x' (s :: l), q < t.x
    refine ⟨⟨⟨h1.1, i3 (r.x + r.a) h1.2.1 (by omega), i1.1⟩, fun q hq => ?_, fun q hq => ?_⟩, fun z => ?_, fun q hq hq2 t ht => ?_⟩
    · rcases List.mem_cons.1 hq with rfl | hq
      · exact h2 _ (by simp)
      · exact i1.2.1 q hq
    · rcases List.mem_cons.1 hq with rfl | hq
      · omega
      · exact i1.2.2 q hq
    · rw [inX_cons (l := colPut y h x x' (s :: l)), i2, inX_cons (r := r) (l := s :: l)]
      constructor
      · rintro (h | h | h)
        · exact .inl (.inl h)
        · exact .inl (.inr h)
        · exact .inr h
      · rintro ((h | h) | h)
        · exact .inl h
        · exact .inr (.inl h)
        · exact .inr (.inr h)
    · rcases List.mem_cons.1 ht with rfl | ht
      · exact hq _ (by simp)
      · exact i3 q (fun r' hr' => hq r' (by simp at hr' ⊢; exact .inr hr')) hq2 t ht

/-- Is a place in a column that is meant? -/
def colAt (F : Int → Bool) : Int → List Int → Int → Prop
  | _, [], _ => False
  | x, x' :: ks, z => (x ≤ z ∧ z < x' ∧ F x = true) ∨ colAt F x' ks z

theorem colAt_ge {F : Int → Bool} : ∀ {ks : List Int} {x z : Int}, (x :: ks).Pairwise (· < ·) → colAt F x ks z → x ≤ z
  | [], _, _, _, h => h.elim
  | x' :: ks, x, z, hs, h => by
    rcases h with h | h
    · exact h.1
    · have h1 := colAt_ge (List.pairwise_cons.1 hs).2 h
      have h2 := (List.pairwise_cons.1 hs).1 x' (by simp)
      omega

theorem colsO_row {F : Int → Bool} {y h : Int} : ∀ {ks : List Int} {x : Int} {band : List Rc}, (x :: ks).Pairwise (· < ·) → RowO y h x band →
    (∃ k, RowO y h k (colsO F y h band x ks)) ∧ ∀ z, inX (colsO F y h band x ks) z ↔ inX band z ∨ colAt F x ks z
  | [], x, band, _, hb => ⟨⟨x, hb⟩, fun z => by simp [colsO, colAt]⟩
  | x' :: ks, x, band, hs, hb => by
    have hx := (List.pairwise_cons.1 hs).1 x' (by simp)
    have hs' := (List.pairwise_cons.1 hs).2
    unfold colsO
    by_cases hf : F x = true
    · rw [if_pos hf]
      obtain ⟨c1, c2, -⟩ := colPut_row (y := y) (h := h) hx hb
      obtain ⟨i1, i2⟩ := colsO_row (F := F) hs' c1
      refine ⟨i1, fun z => ?_⟩
      rw [i2, c2]
      simp only [colAt, hf, and_true]
      constructor
      · rintro ((h1 | h1) | h1)
        · exact .inl h1
        · exact .inr (.inl h1)
        · exact .inr (.inr h1)
      · rintro (h1 | h1 | h1)
        · exact .inl (.inl h1)
        · exact .inl (.inr h1)
        · exact .inr h1
    · rw [if_neg hf]
      obtain ⟨i1, i2⟩ := colsO_row (F := F) hs' (show RowO y h x' band from ⟨hb.1, hb.2.1, fun r hr => by have := hb.2.2 r hr; omega⟩)
      refine ⟨i1, fun z => ?_⟩
      rw [i2]
      simp [colAt, hf]

/-- Between two neighbouring places across, a pixel stands for all. -/
theorem pixx_const {a : List Rc} {k k' : Int} {ks : List Int} (hk : ∀ q ∈ ks, k' ≤ q) (H : ∀ r ∈ a, emptyR r = false → (r.x < k ∨ r.x ∈ k :: k' :: ks) ∧ (r.x + r.a < k ∨ r.x + r.a ∈ k :: k' :: ks)) {x y : Int} (h1 : k ≤ x) (h2 : x < k') : pix a x y = pix a k y := by
  rw [Bool.eq_iff_iff, pix_iff, pix_iff]
  have key : ∀ z, z < k ∨ z ∈ k :: k' :: ks → (z ≤ k ∨ k' ≤ z) := by
    intro z hz
    simp only [List.mem_cons] at hz
    rcases hz with h | h | h | h
    · omega
    · omega
    · omega
    · have := hk z h; omega
  constructor
  · rintro ⟨r, hr, hh⟩
    obtain ⟨e, ex, ey⟩ := has_iff.1 hh
    obtain ⟨g1, g2⟩ := H r hr e
    have := key _ g1
    have := key _ g2
    exact ⟨r, hr, has_iff.2 ⟨e, by omega, ey⟩⟩
  · rintro ⟨r, hr, hh⟩
    obtain ⟨e, ex, ey⟩ := has_iff.1 hh
    obtain ⟨g1, g2⟩ := H r hr e
    have := key _ g1
    have := key _ g2
    exact ⟨r, hr, has_iff.2 ⟨e, by omega, ey⟩⟩

/-- The columns that are meant, pixel by pixel. -/
theorem colAt_iff {mf : Bool → Bool → Bool} (hff : mf false false = false) {a b : List Rc} {y : Int} : ∀ {ks : List Int} {x : Int}, (x :: ks).Pairwise (· < ·) →
    (∀ r, r ∈ a ∨ r ∈ b → emptyR r = false → (r.x < x ∨ r.x ∈ x :: ks) ∧ (r.x + r.a < x ∨ r.x + r.a ∈ x :: ks)) →
    ∀ z, x ≤ z → (colAt (fun u => mf (pix a u y) (pix b u y)) x ks z ↔ mf (pix a z y) (pix b z y) = true)
  | [], x, _, H, z, hz => by
    have none : ∀ l : List Rc, (∀ r ∈ l, r ∈ a ∨ r ∈ b) → pix l z y = false := by
      intro l hl
      cases hp : pix l z y
      · rfl
      · obtain ⟨r, hr, hh⟩ := pix_iff.1 hp
        obtain ⟨e, ex, ey⟩ := has_iff.1 hh
        have h2 := (H r (hl r hr) e).2
        simp only [List.mem_singleton] at h2
        omega
    rw [none a (fun r h => .inl h), none b (fun r h => .inr h), hff]
    simp [colAt]
  | x' :: ks, x, hs, H, z, hz => by
    have hx := (List.pairwise_cons.1 hs).1
    have hs' := (List.pairwise_cons.1 hs).2
    have hx' := (List.pairwise_cons.1 hs').1
    by_cases hzx : z < x'
    · have c1 := pixx_const (a := a) (y := y) (fun q hq => by have := hx' q hq; omega) (fun r hr e => H r (.inl hr) e) hz hzx
      have c2 := pixx_const (a := b) (y := y) (fun q hq => by have := hx' q hq; omega) (fun r hr e => H r (.inr hr) e) hz hzx
      rw [c1, c2]
      constructor
      · rintro (h | h)
        · exact h.2.2
        · have := colAt_ge hs' h; omega
      · intro h
        exact .inl ⟨hz, hzx, h⟩
    · have ih := colAt_iff hff (a := a) (b := b) (y := y) hs' (fun r hr e => by
        obtain ⟨g1, g2⟩ := H r hr e
        have h0 := hx x' (by simp)
        constructor
        · rcases g1 with g | g
          · left; omega
          · rcases List.mem_cons.1 g with g | g
            · left; omega
            · exact .inr g
        · rcases g2 with g | g
          · left; omega
          · rcases List.mem_cons.1 g with g | g
            · left; omega
            · exact .inr g) z (by omega)
      rw [← ih]
      constructor
      · rintro (h | h)
        · omega
        · exact h
      · exact .inr

/-- One row of the document's. -/
def colsR (F : Int → Bool) (y h : Int) : List Int → List Rc
  | [] => []
  | x :: ks => colsO F y h [] x ks

theorem rowO_nil (y h k : Int) : RowO y h k [] := ⟨trivial, by simp, by simp⟩

theorem none_left {a b : List Rc} {xs : List Int} {x0 : Int} (H : ∀ r, r ∈ a ∨ r ∈ b → emptyR r = false → r.x ∈ xs) (hx : ∀ q ∈ xs, x0 ≤ q) (l : List Rc) (hl : ∀ r ∈ l, r ∈ a ∨ r ∈ b) {z y : Int} (hz : z < x0) : pix l z y = false := by
  cases hp : pix l z y
  · rfl
  · obtain ⟨r, hr, hh⟩ := pix_iff.1 hp
    obtain ⟨e, ex, ey⟩ := has_iff.1 hh
    have := hx _ (H r (hl r hr) e)
    omega

theorem colsR_sem {mf : Bool → Bool → Bool} (hff : mf false false = false) {a b : List Rc} {xs : List Int} (hs : xs.Pairwise (· < ·)) (H : ∀ r, r ∈ a ∨ r ∈ b → emptyR r = false → r.x ∈ xs ∧ r.x + r.a ∈ xs) (y h : Int) :
    Chain (colsR (fun u => mf (pix a u y) (pix b u y)) y h xs) ∧ (∀ r ∈ colsR (fun u => mf (pix a u y) (pix b u y)) y h xs, r.y = y ∧ r.b = h) ∧ ∀ z, inX (colsR (fun u => mf (pix a u y) (pix b u y)) y h xs) z ↔ mf (pix a z y) (pix b z y) = true := by
  cases xs with
  | nil =>
    refine ⟨trivial, by simp [colsR], fun z => ?_⟩
    have none : ∀ l : List Rc, (∀ r ∈ l, r ∈ a ∨ r ∈ b) → pix l z y = false := fun l hl => none_left (x0 := z + 1) (fun r hr e => (H r hr e).1) (by simp) l hl (by omega)
    rw [none a (fun r h => .inl h), none b (fun r h => .inr h), hff]
    simp [colsR, inX]
  | cons x ks =>
    obtain ⟨⟨k, i1, i2, -⟩, i3⟩ := colsO_row (F := fun u => mf (pix a u y) (pix b u y)) (y := y) (h := h) hs (rowO_nil y h x)
    refine ⟨i1, i2, fun z => ?_⟩
    show inX (colsO _ y h [] x ks) z ↔ _
    rw [i3, inX_nil', false_or]
    by_cases hz : x ≤ z
    · exact colAt_iff hff hs (fun r hr e => ⟨.inr (H r hr e).1, .inr (H r hr e).2⟩) z hz
    · have hge : ∀ q ∈ x :: ks, x ≤ q := fun q hq => by
        rcases List.mem_cons.1 hq with rfl | hq
        · omega
        · have := (List.pairwise_cons.1 hs).1 q hq; omega
      have none : ∀ l : List Rc, (∀ r ∈ l, r ∈ a ∨ r ∈ b) → pix l z y = false := fun l hl => none_left (fun r hr e => (H r hr e).1) hge l hl (by omega)
      rw [none a (fun r h => .inl h), none b (fun r h => .inr h), hff]
      constructor
      · intro h; have := colAt_ge hs h; omega
      · intro h; cases h

/-- The document's rows, one below the other. -/
def rowsO (mf : Bool → Bool → Bool) (a b : List Rc) (xs : List Int) : Int → List Int → List (List Rc)
  | _, [] => []
  | y, y' :: ks => colsR (fun u => mf (pix a u y) (pix b u y)) y (y' - y) xs :: rowsO mf a b xs y' ks

def full (l : List (List Rc)) : List (List Rc) := l.filter (fun st => !st.isEmpty)

theorem rows_sem {mf : Bool → Bool → Bool} (hff : mf false false = false) {a b : List Rc} {xs : List Int} (hs : xs.Pairwise (· < ·)) (Hx : ∀ r, r ∈ a ∨ r ∈ b → emptyR r = false → r.x ∈ xs ∧ r.x + r.a ∈ xs) : ∀ (ks : List Int) (k : Int), (k :: ks).Pairwise (· < ·) →
    (∀ r, r ∈ a ∨ r ∈ b → emptyR r = false → (r.y < k ∨ r.y ∈ k :: ks) ∧ (r.y + r.b < k ∨ r.y + r.b ∈ k :: ks)) →
    Seq k (full (rowsO mf a b xs k ks)) ∧ ∀ x y, k ≤ y → (inB (full (rowsO mf a b xs k ks)) x y ↔ mf (pix a x y) (pix b x y) = true)
  | [], k, _, H => by
    refine ⟨trivial, fun x y hy => ?_⟩
    have none : ∀ l : List Rc, (∀ r ∈ l, r ∈ a ∨ r ∈ b) → pix l x y = false := by
      intro l hl
      cases hp : pix l x y
      · rfl
      · obtain ⟨r, hr, hh⟩ := pix_iff.1 hp
        obtain ⟨e, ex, ey⟩ := has_iff.1 hh
        have h2 := (H r (hl r hr) e).2
        simp only [List.mem_singleton] at h2
        omega
    rw [none a (fun r h => .inl h), none b (fun r h => .inr h), hff]
    simp [rowsO, full, inB]
  | k' :: ks, k, hk, H => by
    have hk1 := (List.pairwise_cons.1 hk).1
    have hk2 := (List.pairwise_cons.1 hk).2
    have hk3 := (List.pairwise_cons.1 hk2).1
    have hkk := hk1 k' (by simp)
    obtain ⟨i1, i2⟩ := rows_sem hff hs Hx ks k' hk2 (fun r hr e => by
        obtain ⟨g1, g2⟩ := H r hr e
        constructor
        · rcases g1 with g | g
          · left; omega
          · rcases List.mem_cons.1 g with g | g
            · left; omega
            · exact .inr g
        · rcases g2 with g | g
          · left; omega
          · rcases List.mem_cons.1 g with g | g
            · left; omega
            · exact .inr g)
    obtain ⟨c1, c2, c3⟩ := colsR_sem hff hs Hx k (k' - k)
    have hpix : ∀ x y, k ≤ y → y < k' → (mf (pix a x y) (pix b x y) = mf (pix a x k) (pix b x k)) := fun x y h1 h2 => by
      rw [pix_const (a := a) (x := x) (fun q hq => by have := hk3 q hq; omega) (fun r hr e => H r (.inl hr) e) h1 h2, pix_const (a := b) (x := x) (fun q hq => by have := hk3 q hq; omega) (fun r hr e => H r (.inr hr) e) h1 h2]
    have hlow := i1.low
    obtain ⟨st, hst⟩ : ∃ st, colsR (fun u => mf (pix a u k) (pix b u k)) k (k' - k) xs = st := ⟨_, rfl⟩
    rw [hst] at c1 c2 c3
    have hdef : rowsO mf a b xs k (k' :: ks) = st :: rowsO mf a b xs k' ks := by rw [← hst]; rfl
    rw [hdef]
    by_cases he : st = []
    · have hf : full (st :: rowsO mf a b xs k' ks) = full (rowsO mf a b xs k' ks) := by rw [he]; rfl
      rw [hf]
      refine ⟨i1.mono (by omega), fun x y hy => ?_⟩
      by_cases hyk : k' ≤ y
      · exact i2 x y hyk
      · have h1 := hpix x y hy (by omega)
        have h2 := c3 x
        rw [he, inX_nil'] at h2
        rw [h1]
        constructor
        · intro h; exact (low_none hlow (by omega) h).elim
        · intro h; exact (h2.2 h).elim
    · have hf : full (st :: rowsO mf a b xs k' ks) = st :: full (rowsO mf a b xs k' ks) := by
        cases st with
        | nil => exact absurd rfl he
        | cons r l => rfl
      have hB : Band st k (k' - k) := ⟨he, c1, by omega, c2⟩
      rw [hf]
      refine ⟨⟨k, k' - k, hB, by omega, by rw [show k + (k' - k) = k' by omega]; exact i1⟩, fun x y hy => ?_⟩
      rw [inB_cons, hB.row, c3]
      by_cases hyk : k' ≤ y
      · rw [i2 x y hyk]
        constructor
        · rintro (h | h)
          · omega
          · exact h
        · exact .inr
      · rw [hpix x y hy (by omega)]
        constructor
        · rintro (h | h)
          · exact h.1
          · exact (low_none hlow (by omega) h).elim
        · intro h; exact .inl ⟨h, hy, by omega⟩

end Go.Proofs.YtajoipmchgabfaaGreat

/- Plain facts: what the document's rows come to, put together, is the list in form. Nothing here walks. -/
namespace Go.Proofs.YtajoipmchgabfaaGreat
open Go.RowKit

/-- A column that goes on to y'. -/
def tall (y' : Int) (r : Rc) : Rc := ⟨r.x, r.y, r.a, y' - r.y⟩
/-- Does the row that is kept end at y? -/
def touchB (last : List Rc) (y : Int) : Bool := match last with
  | [] => false
  | r :: _ => decide (r.y + r.b = y)
def goesD (last st : List Rc) (y : Int) : Bool := !st.isEmpty && (!last.isEmpty && (touchB last y && alikeB last st))
/-- One row more: what is done, and the row that is kept. -/
def docStep (s : List Rc × List Rc) (st : List Rc) (y y' : Int) : List Rc × List Rc := if goesD s.2 st y = true then (s.1, s.2.map (tall y')) else (s.1 ++ s.2, st)
def docR (mf : Bool → Bool → Bool) (a b : List Rc) (xs : List Int) : List Rc × List Rc → Int → List Int → List Rc × List Rc
  | s, _, [] => s
  | s, y, y' :: ks => docR mf a b xs (docStep s (colsR (fun u => mf (pix a u y) (pix b u y)) y (y' - y) xs) y y') y' ks

theorem bandsR_gap {ab : List Rc} {t h k : Int} (hab : ab = [] ∨ (Band ab t h ∧ t + h < k)) : ∀ {M : List (List Rc)}, Seq k M → bandsR ab M = (if ab = [] then [] else [ab]) ++ bandsR [] M
  | [], _ => by simp [bandsR]
  | st :: l, hM => by
    obtain ⟨t', h', hB, hk, -⟩ := hM
    have hg : goesOnB ab st = false := by
      rcases hab with rfl | ⟨hb, hlt⟩
      · rfl
      · cases hh : goesOnB ab st
        · rfl
        · have := (goesOn_iff hb hB).1 hh
          omega
    have hg0 : goesOnB [] st = false := rfl
    rw [bandsR, bandsR, hg, hg0]
    simp

theorem alike_iff {l m : List Rc} : alikeB l m = true ↔ cols l = cols m := by
  unfold alikeB
  rw [Bool.and_eq_true, decide_eq_true_eq, sameCols_iff]
  exact ⟨fun h => h.2, fun h => ⟨cols_len h, h⟩⟩

theorem Band.touch {l : List Rc} {t h y : Int} (hb : Band l t h) : touchB l y = true ↔ t + h = y := by
  cases l with
  | nil => exact (hb.1 rfl).elim
  | cons r l =>
    have := hb.2.2.2 r (by simp)
    simp only [touchB, decide_eq_true_eq]
    omega

theorem docR_bands {mf : Bool → Bool → Bool} (hff : mf false false = false) {a b : List Rc} {xs : List Int} (hs : xs.Pairwise (· < ·)) (Hx : ∀ r, r ∈ a ∨ r ∈ b → emptyR r = false → r.x ∈ xs ∧ r.x + r.a ∈ xs) : ∀ (ks : List Int) (k : Int) (s : List Rc × List Rc), (k :: ks).Pairwise (· < ·) →
    (∀ r, r ∈ a ∨ r ∈ b → emptyR r = false → (r.y < k ∨ r.y ∈ k :: ks) ∧ (r.y + r.b < k ∨ r.y + r.b ∈ k :: ks)) →
    (s.2 = [] ∨ ∃ t h, Band s.2 t h ∧ t + h ≤ k) →
    (docR mf a b xs s k ks).1 ++ (docR mf a b xs s k ks).2 = s.1 ++ (bandsR s.2 (full (rowsO mf a b xs k ks))).flatten
  | [], k, s, _, _, _ => by
    show s.1 ++ s.2 = s.1 ++ (if s.2 = [] then [] else [s.2]).flatten
    split
    · rename_i h; rw [h]; simp
    · simp
  | k' :: ks, k, s, hk, H, hab => by
    have hk1 := (List.pairwise_cons.1 hk).1
    have hk2 := (List.pairwise_cons.1 hk).2
    have hkk := hk1 k' (by simp)
    have H' : ∀ r, r ∈ a ∨ r ∈ b → emptyR r = false → (r.y < k' ∨ r.y ∈ k' :: ks) ∧ (r.y + r.b < k' ∨ r.y + r.b ∈ k' :: ks) := fun r hr e => by
      obtain ⟨g1, g2⟩ := H r hr e
      constructor
      · rcases g1 with g | g
        · left; omega
        · rcases List.mem_cons.1 g with g | g
          · left; omega
          · exact .inr g
      · rcases g2 with g | g
        · left; omega
        · rcases List.mem_cons.1 g with g | g
          · left; omega
          · exact .inr g
    obtain ⟨hseq, -⟩ := rows_sem hff hs Hx ks k' hk2 H'
    obtain ⟨c1, c2, c3⟩ := colsR_sem hff hs Hx k (k' - k)
    obtain ⟨st, hst⟩ : ∃ st, colsR (fun u => mf (pix a u k) (pix b u k)) k (k' - k) xs = st := ⟨_, rfl⟩
    rw [hst] at c1 c2
    have hdef : rowsO mf a b xs k (k' :: ks) = st :: rowsO mf a b xs k' ks := by rw [← hst]; rfl
    have hdoc : docR mf a b xs s k (k' :: ks) = docR mf a b xs (docStep s st k k') k' ks := by rw [← hst]; rfl
    rw [hdef, hdoc]
    by_cases he : st = []
    · have hf : full (st :: rowsO mf a b xs k' ks) = full (rowsO mf a b xs k' ks) := by rw [he]; rfl
      have hd : docStep s st k k' = (s.1 ++ s.2, []) := by rw [he]; rfl
      rw [hf, hd, docR_bands hff hs Hx ks k' _ hk2 H' (.inl rfl)]
      have hg : bandsR s.2 (full (rowsO mf a b xs k' ks)) = (if s.2 = [] then [] else [s.2]) ++ bandsR [] (full (rowsO mf a b xs k' ks)) := by
        rcases hab with h | ⟨t, h, hB, hle⟩
        · exact bandsR_gap (t := 0) (h := 0) (.inl h) hseq
        · exact bandsR_gap (.inr ⟨hB, by omega⟩) hseq
      rw [hg]
      split
      · rename_i h; rw [h]; simp
      · simp
    · have hf : full (st :: rowsO mf a b xs k' ks) = st :: full (rowsO mf a b xs k' ks) := by
        cases st with
        | nil => exact absurd rfl he
        | cons r l => rfl
      have hB : Band st k (k' - k) := ⟨he, c1, by omega, c2⟩
      have hemp : st.isEmpty = false := by
        cases st with
        | nil => exact absurd rfl he
        | cons r l => rfl
      rw [hf, bandsR]
      rcases hab with h0 | ⟨t, h, hA, hle⟩
      · have g1 : goesOnB s.2 st = false := by rw [h0]; rfl
        have g2 : docStep s st k k' = (s.1 ++ s.2, st) := by
          unfold docStep goesD
          rw [h0]
          simp
        rw [g1, g2, docR_bands hff hs Hx ks k' _ hk2 H' (.inr ⟨k, k' - k, hB, by omega⟩), h0]
        simp
      · have hAe : s.2.isEmpty = false := by
          obtain ⟨s1, s2⟩ := s
          cases s2 with
          | nil => exact (hA.1 rfl).elim
          | cons r l => rfl
        have hiff : goesD s.2 st k = goesOnB s.2 st := by
          rw [Bool.eq_iff_iff, goesOn_iff hA hB]
          unfold goesD
          rw [hemp, hAe]
          simp only [Bool.not_false, Bool.true_and, Bool.and_eq_true, alike_iff, hA.touch]
          exact ⟨fun h => ⟨h.2, h.1⟩, fun h => ⟨h.2, h.1⟩⟩
        cases hg : goesOnB s.2 st
        · have g2 : docStep s st k k' = (s.1 ++ s.2, st) := by
            unfold docStep
            rw [hiff, hg]
            simp
          rw [g2, docR_bands hff hs Hx ks k' _ hk2 H' (.inr ⟨k, k' - k, hB, by omega⟩)]
          simp [hA.1]
        · have htk := ((goesOn_iff hA hB).1 hg).2
          have hm : s.2.map (tall k') = s.2.map (higher ((st.map (·.b)).headD 0)) := by
            rw [hB.headB]
            refine List.map_congr_left fun r hr => ?_
            have := hA.2.2.2 r hr
            unfold tall higher
            rw [Rc.mk.injEq]
            exact ⟨rfl, rfl, rfl, by omega⟩
          have g2 : docStep s st k k' = (s.1, s.2.map (higher ((st.map (·.b)).headD 0))) := by
            unfold docStep
            rw [hiff, hg, if_pos rfl, hm]
          rw [g2]
          have hH := hA.higher ((st.map (·.b)).headD 0) (by rw [hB.headB]; omega)
          rw [docR_bands hff hs Hx ks k' _ hk2 H' (.inr ⟨t, h + (st.map (·.b)).headD 0, hH, by rw [hB.headB]; omega⟩)]
          simp

/-- What the document's rows come to is the list in form. -/
theorem doc_form {mf : Bool → Bool → Bool} (hff : mf false false = false) {a b : List Rc} {xs : List Int} (hs : xs.Pairwise (· < ·)) (Hx : ∀ r, r ∈ a ∨ r ∈ b → emptyR r = false → r.x ∈ xs ∧ r.x + r.a ∈ xs) {k : Int} {ks : List Int} (hk : (k :: ks).Pairwise (· < ·))
    (Hy : ∀ r, r ∈ a ∨ r ∈ b → emptyR r = false → r.y ∈ k :: ks ∧ r.y + r.b ∈ k :: ks) :
    (docR mf a b xs ([], []) k ks).1 ++ (docR mf a b xs ([], []) k ks).2 = formL mf a b := by
  have H : ∀ r, r ∈ a ∨ r ∈ b → emptyR r = false → (r.y < k ∨ r.y ∈ k :: ks) ∧ (r.y + r.b < k ∨ r.y + r.b ∈ k :: ks) := fun r hr e => ⟨.inr (Hy r hr e).1, .inr (Hy r hr e).2⟩
  obtain ⟨i1, i2⟩ := rows_sem hff hs Hx ks k hk H
  obtain ⟨j1, j2⟩ := bandsOf_canon i1
  rw [docR_bands hff hs Hx ks k _ hk H (.inl rfl), List.nil_append, ← bandsOf_R, formL]
  congr 1
  refine (canon_unique (bands_sem mf hff a b).1 j1 fun x y => ?_).symm
  rw [(bands_sem mf hff a b).2, j2]
  by_cases hy : k ≤ y
  · exact (i2 x y hy).symm
  · have hge : ∀ q ∈ k :: ks, k ≤ q := fun q hq => by
      rcases List.mem_cons.1 hq with rfl | hq
      · omega
      · have := (List.pairwise_cons.1 hk).1 q hq; omega
    have none : ∀ l : List Rc, (∀ r ∈ l, r ∈ a ∨ r ∈ b) → pix l x y = false := by
      intro l hl
      cases hp : pix l x y
      · rfl
      · obtain ⟨r, hr, hh⟩ := pix_iff.1 hp
        obtain ⟨e, ex, ey⟩ := has_iff.1 hh
        have := hge _ (Hy r (hl r hr) e).1
        omega
    rw [none a (fun r h => .inl h), none b (fun r h => .inr h), hff]
    constructor
    · intro h; cases h
    · intro h; exact (low_none i1.low (by omega) h).elim

end Go.Proofs.YtajoipmchgabfaaGreat
