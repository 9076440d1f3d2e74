/- Several texts in one, each with its own head. -/
import Derived.Test.YtpddkhhdleknnaaZ34
import Derived.Test.YtpddkhhdleknnaaZ29
import Derived.Test.YtpddkhhdleknnaaZ33
/- Plain facts: what the document's rows come to, put together, is the list in form. Nothing here walks. -/
namespace Go.Proofs.Ytpddkhhdleknnaa
open Go.RowKit

/-- A column that goes on to y'. -/
def tall (y' : Int) (r : Rc) : Rc := ⟨r.x, r.y, r.a, y' - r.y⟩
/-- Does the row that is kept end at y? -/
def touchB (last : List Rc) (y : Int) : Bool := match last with
  | [] => false
  | r :: _ => decide (r.y + r.b = y)
def goesD (last st : List Rc) (y : Int) : Bool := !st.isEmpty && (!last.isEmpty && (touchB last y && alikeB last st))
/-- One row more: what is done, and the row that is kept. -/
def docStep (s : List Rc × List Rc) (st : List Rc) (y y' : Int) : List Rc × List Rc := if goesD s.2 st y = true then (s.1, s.2.map (tall y')) else (s.1 ++ s.2, st)
def docR (mf : Bool → Bool → Bool) (a b : List Rc) (xs : List Int) : List Rc × List Rc → Int → List Int → List Rc × List Rc
  | s, _, [] => s
  | s, y, y' :: ks => docR mf a b xs (docStep s (colsR (fun u => mf (pix a u y) (pix b u y)) y (y' - y) xs) y y') y' ks

theorem bandsR_gap {ab : List Rc} {t h k : Int} (hab : ab = [] ∨ (Band ab t h ∧ t + h < k)) : ∀ {M : List (List Rc)}, Seq k M → bandsR ab M = (if ab = [] then [] else [ab]) ++ bandsR [] M
  | [], _ => by simp [bandsR]
  | st :: l, hM => by
    obtain ⟨t', h', hB, hk, -⟩ := hM
    have hg : goesOnB ab st = false := by
      rcases hab with rfl | ⟨hb, hlt⟩
      · rfl
      · cases hh : goesOnB ab st
        · rfl
        · have := (goesOn_iff hb hB).1 hh
          omega
    have hg0 : goesOnB [] st = false := rfl
    rw [bandsR, bandsR, hg, hg0]
    simp

theorem alike_iff {l m : List Rc} : alikeB l m = true ↔ cols l = cols m := by
  unfold alikeB
  rw [Bool.and_eq_true, decide_eq_true_eq, sameCols_iff]
  exact ⟨fun h => h.2, fun h => ⟨cols_len h, h⟩⟩

theorem Band.touch {l : List Rc} {t h y : Int} (hb : Band l t h) : touchB l y = true ↔ t + h = y := by
  cases l with
  | nil => exact (hb.1 rfl).elim
  | cons r l =>
    have := hb.2.2.2 r (by simp)
    simp only [touchB, decide_eq_true_eq]
    omega

theorem docR_bands {mf : Bool → Bool → Bool} (hff : mf false false = false) {a b : List Rc} {xs : List Int} (hs : xs.Pairwise (· < ·)) (Hx : ∀ r, r ∈ a ∨ r ∈ b → emptyR r = false → r.x ∈ xs ∧ r.x + r.a ∈ xs) : ∀ (ks : List Int) (k : Int) (s : List Rc × List Rc), (k :: ks).Pairwise (· < ·) →
    (∀ r, r ∈ a ∨ r ∈ b → emptyR r = false → (r.y < k ∨ r.y ∈ k :: ks) ∧ (r.y + r.b < k ∨ r.y + r.b ∈ k :: ks)) →
    (s.2 = [] ∨ ∃ t h, Band s.2 t h ∧ t + h ≤ k) →
    (docR mf a b xs s k ks).1 ++ (docR mf a b xs s k ks).2 = s.1 ++ (bandsR s.2 (full (rowsO mf a b xs k ks))).flatten
  | [], k, s, _, _, _ => by
    show s.1 ++ s.2 = s.1 ++ (if s.2 = [] then [] else [s.2]).flatten
    split
    · rename_i h; rw [h]; simp
    · simp
  | k' :: ks, k, s, hk, H, hab => by
    have hk1 := (List.pairwise_cons.1 hk).1
    have hk2 := (List.pairwise_cons.1 hk).2
    have hkk := hk1 k' (by simp)
    have H' : ∀ r, r ∈ a ∨ r ∈ b → emptyR r = false → (r.y < k' ∨ r.y ∈ k' :: ks) ∧ (r.y + r.b < k' ∨ r.y + r.b ∈ k' :: ks) := fun r hr e => by
      obtain ⟨g1, g2⟩ := H r hr e
      constructor
      · rcases g1 with g | g
        · left; omega
        · rcases List.mem_cons.1 g with g | g
          · left; omega
          · exact .inr g
      · rcases g2 with g | g
        · left; omega
        · rcases List.mem_cons.1 g with g | g
          · left; omega
          · exact .inr g
    obtain ⟨hseq, -⟩ := rows_sem hff hs Hx ks k' hk2 H'
    obtain ⟨c1, c2, c3⟩ := colsR_sem hff hs Hx k (k' - k)
    obtain ⟨st, hst⟩ : ∃ st, colsR (fun u => mf (pix a u k) (pix b u k)) k (k' - k) xs = st := ⟨_, rfl⟩
    rw [hst] at c1 c2
    have hdef : rowsO mf a b xs k (k' :: ks) = st :: rowsO mf a b xs k' ks := by rw [← hst]; rfl
    have hdoc : docR mf a b xs s k (k' :: ks) = docR mf a b xs (docStep s st k k') k' ks := by rw [← hst]; rfl
    rw [hdef, hdoc]
    by_cases he : st = []
    · have hf : full (st :: rowsO mf a b xs k' ks) = full (rowsO mf a b xs k' ks) := by rw [he]; rfl
      have hd : docStep s st k k' = (s.1 ++ s.2, []) := by rw [he]; rfl
      rw [hf, hd, docR_bands hff hs Hx ks k' _ hk2 H' (.inl rfl)]
      have hg : bandsR s.2 (full (rowsO mf a b xs k' ks)) = (if s.2 = [] then [] else [s.2]) ++ bandsR [] (full (rowsO mf a b xs k' ks)) := by
        rcases hab with h | ⟨t, h, hB, hle⟩
        · exact bandsR_gap (t := 0) (h := 0) (.inl h) hseq
        · exact bandsR_gap (.inr ⟨hB, by omega⟩) hseq
      rw [hg]
      split
      · rename_i h; rw [h]; simp
      · simp
    · have hf : full (st :: rowsO mf a b xs k' ks) = st :: full (rowsO mf a b xs k' ks) := by
        cases st with
        | nil => exact absurd rfl he
        | cons r l => rfl
      have hB : Band st k (k' - k) := ⟨he, c1, by omega, c2⟩
      have hemp : st.isEmpty = false := by
        cases st with
        | nil => exact absurd rfl he
        | cons r l => rfl
      rw [hf, bandsR]
      rcases hab with h0 | ⟨t, h, hA, hle⟩
      · have g1 : goesOnB s.2 st = false := by rw [h0]; rfl
        have g2 : docStep s st k k' = (s.1 ++ s.2, st) := by
          unfold docStep goesD
          rw [h0]
          simp
        rw [g1, g2, docR_bands hff hs Hx ks k' _ hk2 H' (.inr ⟨k, k' - k, hB, by omega⟩), h0]
        simp
      · have hAe : s.2.isEmpty = false := by
          obtain ⟨s1, s2⟩ := s
          cases s2 with
          | nil => exact (hA.1 rfl).elim
          | cons r l => rfl
        have hiff : goesD s.2 st k = goesOnB s.2 st := by
          rw [Bool.eq_iff_iff, goesOn_iff hA hB]
          unfold goesD
          rw [hemp, hAe]
          simp only [Bool.not_false, Bool.true_and, Bool.and_eq_true, alike_iff, hA.touch]
          exact ⟨fun h => ⟨h.2, h.1⟩, fun h => ⟨h.2, h.1⟩⟩
        cases hg : goesOnB s.2 st
        · have g2 : docStep s st k k' = (s.1 ++ s.2, st) := by
            unfold docStep
            rw [hiff, hg]
            simp
          rw [g2, docR_bands hff hs Hx ks k' _ hk2 H' (.inr ⟨k, k' - k, hB, by omega⟩)]
          simp [hA.1]
        · have htk := ((goesOn_iff hA hB).1 hg).2
          have hm : s.2.map (tall k') = s.2.map (higher ((st.map (·.b)).headD 0)) := by
            rw [hB.headB]
            refine List.map_congr_left fun r hr => ?_
            have := hA.2.2.2 r hr
            unfold tall higher
            rw [Rc.mk.injEq]
            exact ⟨rfl, rfl, rfl, by omega⟩
          have g2 : docStep s st k k' = (s.1, s.2.map (higher ((st.map (·.b)).headD 0))) := by
            unfold docStep
            rw [hiff, hg, if_pos rfl, hm]
          rw [g2]
          have hH := hA.higher ((st.map (·.b)).headD 0) (by rw [hB.headB]; omega)
          rw [docR_bands hff hs Hx ks k' _ hk2 H' (.inr ⟨t, h + (st.map (·.b)).headD 0, hH, by rw [hB.headB]; omega⟩)]
          simp

/-- What the document's rows come to is the list in form. -/
theorem doc_form {mf : Bool → Bool → Bool} (hff : mf false false = false) {a b : List Rc} {xs : List Int} (hs : xs.Pairwise (· < ·)) (Hx : ∀ r, r ∈ a ∨ r ∈ b → emptyR r = false → r.x ∈ xs ∧ r.x + r.a ∈ xs) {k : Int} {ks : List Int} (hk : (k :: ks).Pairwise (· < ·))
    (Hy : ∀ r, r ∈ a ∨ r ∈ b → emptyR r = false → r.y ∈ k :: ks ∧ r.y + r.b ∈ k :: ks) :
    (docR mf a b xs ([], []) k ks).1 ++ (docR mf a b xs ([], []) k ks).2 = formL mf a b := by
  have H : ∀ r, r ∈ a ∨ r ∈ b → emptyR r = false → (r.y < k ∨ r.y ∈ k :: ks) ∧ (r.y + r.b < k ∨ r.y + r.b ∈ k :: ks) := fun r hr e => ⟨.inr (Hy r hr e).1, .inr (Hy r hr e).2⟩
  obtain ⟨i1, i2⟩ := rows_sem hff hs Hx ks k hk H
  obtain ⟨j1, j2⟩ := bandsOf_canon i1
  rw [docR_bands hff hs Hx ks k _ hk H (.inl rfl), List.nil_append, ← bandsOf_R, formL]
  congr 1
  refine (canon_unique (bands_sem mf hff a b).1 j1 fun x y => ?_).symm
  rw [(bands_sem mf hff a b).2, j2]
  by_cases hy : k ≤ y
  · exact (i2 x y hy).symm
  · have hge : ∀ q ∈ k :: ks, k ≤ q := fun q hq => by
      rcases List.mem_cons.1 hq with rfl | hq
      · omega
      · have := (List.pairwise_cons.1 hk).1 q hq; omega
    have none : ∀ l : List Rc, (∀ r ∈ l, r ∈ a ∨ r ∈ b) → pix l x y = false := by
      intro l hl
      cases hp : pix l x y
      · rfl
      · obtain ⟨r, hr, hh⟩ := pix_iff.1 hp
        obtain ⟨e, ex, ey⟩ := has_iff.1 hh
        have := hge _ (Hy r (hl r hr) e).1
        omega
    rw [none a (fun r h => .inl h), none b (fun r h => .inr h), hff]
    constructor
    · intro h; cases h
    · intro h; exact (low_none i1.low (by omega) h).elim

end Go.Proofs.Ytpddkhhdleknnaa

/- The places that the document's Of works with: its four calls of edges. -/
namespace Go.Proofs.Ytpddkhhdleknnaa
open Go.RowKit

/-- A row of places that is owned, in a block of its own. -/
structure Places (w0 w : World) (u : Value) (l : List Int) : Prop where
  own : w.ownsRow w0.heap.size 3 1 u l.length (intsV l)

theorem row_blk {W : World} {v : Value} {xs : List Rc} (h : Row encR 4 W v xs) : ∀ q, v.ownBlock = some q → q < W.heap.size := by
  obtain ⟨p, cap, rfl, -, -, hp⟩ := h
  intro q hq
  rcases hp with ⟨rfl, -⟩ | ⟨b, off, rfl, hb, -⟩
  · cases hq
  · have : q = b := by
      simp [Value.ownBlock] at hq
      exact hq.symm
    omega

/-- edges(b, down, edges(a, down, nil)). -/
theorem redges_two (down : Bool) (va vb : Value) (a b : List Rc) (w0 w : World) (ha : Row encR 4 w0 va a) (hb : Row encR 4 w0 vb b) (hla : a.length ≤ 24) (hlb : b.length ≤ 24) (h0 : Below w0.heap.size w0 w) :
    Calls Try.prog 57 #[va, .bool down, .slice none 0 0] w fun e w1 => ∃ u, e = .returned u ∧ w1.ownsRow w0.heap.size 3 1 u (edgesI down a []).length (intsV (edgesI down a [])) ∧ Below w.heap.size w w1 ∧ (∀ q, u.ownBlock = some q → w.heap.size ≤ q) ∧
      Calls Try.prog 57 #[vb, .bool down, u] w1 fun e w2 => ∃ u2, e = .returned u2 ∧ w2.ownsRow w0.heap.size 3 1 u2 (edgesI down b (edgesI down a [])).length (intsV (edgesI down b (edgesI down a []))) ∧ Below w.heap.size w w2 ∧ ∀ q, u2.ownBlock = some q → w.heap.size ≤ q := by
  refine Calls.mono (redges_any down va (.slice none 0 0) a [] w0.heap.size w (ha.below h0) (World.ownsRow_nil _ _ _ _) h0.size (fun q h => by cases h) (by simp; omega)) ?_
  rintro e w1 ⟨u, rfl, hown, ht, hp⟩
  have hb1 : Below w.heap.size w w1 := ht.below (Nat.le_refl _) (fun i h => by cases h)
  have hp1 : ∀ q, u.ownBlock = some q → w.heap.size ≤ q := fun q hq => by
    rcases hp q hq with h | h
    · cases h
    · exact h
  have hb01 : Below w0.heap.size w0 w1 := h0.trans (hb1.mono h0.size)
  refine ⟨u, rfl, hown, hb1, hp1, ?_⟩
  have hl1 := edgesI_len down a []
  refine Calls.mono (redges_any down vb u b (edgesI down a []) w0.heap.size w1 (hb.below hb01) hown hb01.size (fun q hq hv => by
    have h1 := hp1 q hq
    have h2 := row_blk hb q hv
    have := h0.size
    omega) (by simp at hl1; omega)) ?_
  rintro e w2 ⟨u2, rfl, hown2, ht2, hp2⟩
  refine ⟨u2, rfl, hown2, ?_, fun q hq => ?_⟩
  · exact hb1.trans (ht2.below hb1.size (fun i h => hp1 i h))
  · rcases hp2 q hq with h | h
    · exact hp1 q h
    · have := hb1.size; omega

end Go.Proofs.Ytpddkhhdleknnaa

/- Plain facts: bounds of places, and one column more at the end of a row. Nothing here walks. -/
namespace Go.Proofs.Ytpddkhhdleknnaa
open Go.RowKit

theorem edgesI_bound {down : Bool} {a b : List Rc} {z : Int} (h : z ∈ edgesI down b (edgesI down a [])) : -1048576 ≤ z ∧ z ≤ 1048576 := by
  have key : ∀ r : Rc, emptyR r = false → (z = nearR down r ∨ z = nearR down r + sizeR down r) → -1048576 ≤ z ∧ z ≤ 1048576 := fun r he hz => by
    have hb := emptyR_false.1 he
    cases down <;> simp [nearR, sizeR] at hz <;> omega
  rw [edgesI_mem, edgesI_mem] at h
  rcases h with (h | ⟨r, -, he, hz⟩) | ⟨r, -, he, hz⟩
  · cases h
  · exact key r he hz
  · exact key r he hz

theorem colPut_snoc (y h x x' : Int) (r : Rc) : ∀ l : List Rc, colPut y h x x' (l ++ [r]) = if r.x + r.a = x then l ++ [⟨r.x, r.y, x' - r.x, r.b⟩] else l ++ [r, ⟨x, y, x' - x, h⟩]
  | [] => by simp [colPut]
  | [s] => by
    show s :: colPut y h x x' [r] = _
    simp only [colPut]
    split <;> simp
  | s :: t :: l => by
    have ih := colPut_snoc y h x x' r (t :: l)
    show s :: colPut y h x x' (t :: l ++ [r]) = _
    rw [ih]
    split <;> simp

theorem colPut_len (y h x x' : Int) : ∀ l : List Rc, (colPut y h x x' l).length ≤ l.length + 1
  | [] => by simp [colPut]
  | [r] => by unfold colPut; split <;> simp
  | r :: s :: l => by
    have := colPut_len y h x x' (s :: l)
    show (r :: colPut y h x x' (s :: l)).length ≤ _
    simp at this ⊢
    omega

theorem colsO_len (F : Int → Bool) (y h : Int) : ∀ (ks : List Int) (x : Int) (band : List Rc), (colsO F y h band x ks).length ≤ band.length + ks.length
  | [], _, _ => by simp [colsO]
  | x' :: ks, x, band => by
    unfold colsO
    have h1 := colsO_len F y h ks x' (if F x = true then colPut y h x x' band else band)
    have h2 : (if F x = true then colPut y h x x' band else band).length ≤ band.length + 1 := by
      split
      · exact colPut_len y h x x' band
      · omega
    simp
    omega

/-- One place on: what is still to come of a row of columns. -/
theorem colsO_at (F : Int → Bool) (y h : Int) (band : List Rc) (xs : List Int) (i : Nat) (hi : i + 1 < xs.length) :
    colsO F y h band (xs[i]'(by omega)) (xs.drop (i + 1)) = colsO F y h (if F (xs[i]'(by omega)) = true then colPut y h (xs[i]'(by omega)) xs[i + 1] band else band) xs[i + 1] (xs.drop (i + 2)) := by
  rw [List.drop_eq_getElem_cons hi]
  rfl

theorem docR_at (mf : Bool → Bool → Bool) (a b : List Rc) (xs : List Int) (s : List Rc × List Rc) (ys : List Int) (j : Nat) (hj : j + 1 < ys.length) :
    docR mf a b xs s (ys[j]'(by omega)) (ys.drop (j + 1)) = docR mf a b xs (docStep s (colsR (fun u => mf (pix a u (ys[j]'(by omega))) (pix b u (ys[j]'(by omega)))) (ys[j]'(by omega)) (ys[j + 1] - ys[j]'(by omega)) xs) (ys[j]'(by omega)) ys[j + 1]) ys[j + 1] (ys.drop (j + 2)) := by
  rw [List.drop_eq_getElem_cons hj]
  rfl

end Go.Proofs.Ytpddkhhdleknnaa
