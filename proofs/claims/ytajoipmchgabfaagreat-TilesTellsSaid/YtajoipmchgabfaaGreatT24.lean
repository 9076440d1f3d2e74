/- Plain facts: a list in form, shifted; whether a list is in form; bounds. -/
import Derived.Test.YtajoipmchgabfaaGreatT20
import Derived.Test.YtajoipmchgabfaaGreatT23
namespace Go.Proofs.YtajoipmchgabfaaGreat

abbrev idm : Bool → Bool → Bool := fun p _ => p

theorem pix_ofform (a : List Rc) (x y : Int) : pix (formL (fun p _ => p) a []) x y = pix a x y := pix_form (fun p _ => p) rfl a [] x y

def tr (dx dy : Int) (r : Rc) : Rc := ⟨r.x + dx, r.y + dy, r.a, r.b⟩

theorem cols_tr_inj {dx dy : Int} {b c : List Rc} : cols (b.map (tr dx dy)) = cols (c.map (tr dx dy)) ↔ cols b = cols c := by
  induction b generalizing c with
  | nil => cases c <;> simp [cols]
  | cons r b ih =>
    cases c with
    | nil => simp [cols]
    | cons s c =>
      have := @ih c
      simp only [cols] at this ⊢
      simp only [List.map_cons, List.cons.injEq, this]
      simp [tr]

theorem Chain.tr {dx dy : Int} {b : List Rc} (h : Chain b) : Chain (b.map (tr dx dy)) := by
  induction b with
  | nil => trivial
  | cons r l ih =>
    refine ⟨h.1, fun s hs => ?_, ih h.2.2⟩
    obtain ⟨q, hq, rfl⟩ := List.mem_map.1 hs
    have := h.2.1 q hq
    simp [Go.Proofs.YtajoipmchgabfaaGreat.tr]
    omega

theorem Band.tr {dx dy : Int} {b : List Rc} {t h : Int} (hb : Band b t h) : Band (b.map (tr dx dy)) (t + dy) h := by
  refine ⟨by simpa using hb.1, hb.2.1.tr, hb.2.2.1, fun r hr => ?_⟩
  obtain ⟨q, hq, rfl⟩ := List.mem_map.1 hr
  have := hb.2.2.2 q hq
  simp [Go.Proofs.YtajoipmchgabfaaGreat.tr]
  omega

theorem Canon.tr {dx dy : Int} : ∀ {bs : List (List Rc)}, Canon bs → Canon (bs.map (fun b => b.map (tr dx dy)))
  | [], _ => trivial
  | b :: bs, h => by
    have hband := Canon.band h
    obtain ⟨⟨t, k, hb, hl⟩, hg, hc⟩ := h
    refine ⟨⟨t + dy, k, hb.tr, fun c hc r hr => ?_⟩, fun c hc => ?_, hc.tr⟩
    · obtain ⟨c', hc', rfl⟩ := List.mem_map.1 hc
      obtain ⟨q, hq, rfl⟩ := List.mem_map.1 hr
      have := hl c' hc' q hq
      simp [Go.Proofs.YtajoipmchgabfaaGreat.tr]
      omega
    · cases bs with
      | nil => simp at hc
      | cons d bs =>
        simp at hc
        subst hc
        obtain ⟨t', k', hd⟩ := hband d (by simp)
        have h1 := hg d rfl
        cases hgo : goesOnB (b.map (Go.Proofs.YtajoipmchgabfaaGreat.tr dx dy)) (d.map (Go.Proofs.YtajoipmchgabfaaGreat.tr dx dy))
        · rfl
        · obtain ⟨e1, e2⟩ := (goesOn_iff hb.tr hd.tr).1 hgo
          rw [(goesOn_iff hb hd).2 ⟨cols_tr_inj.1 e1, by omega⟩] at h1
          cases h1

theorem inB_tr {dx dy : Int} {bs : List (List Rc)} {x y : Int} : inB (bs.map (fun b => b.map (tr dx dy))) x y ↔ inB bs (x - dx) (y - dy) := by
  constructor
  · rintro ⟨c, hc, r, hr, h⟩
    obtain ⟨c', hc', rfl⟩ := List.mem_map.1 hc
    obtain ⟨q, hq, rfl⟩ := List.mem_map.1 hr
    simp only [inRc, tr] at h
    exact ⟨c', hc', q, hq, by simp only [inRc]; omega⟩
  · rintro ⟨c, hc, r, hr, h⟩
    refine ⟨_, List.mem_map.2 ⟨c, hc, rfl⟩, _, List.mem_map.2 ⟨r, hr, rfl⟩, ?_⟩
    simp only [inRc, tr] at h ⊢
    omega

def shiftL (l : List Rc) (dx dy : Int) : List Rc := l.map fun r => shiftR r dx dy

theorem shift_cases (r : Rc) (dx dy : Int) : (shiftR r dx dy = zeroRc) ∨ (goodR r = true ∧ shiftR r dx dy = tr dx dy r ∧ -1048576 ≤ r.x + dx ∧ r.x + r.a + dx ≤ 1048576 ∧ -1048576 ≤ r.y + dy ∧ r.y + r.b + dy ≤ 1048576) := by
  unfold shiftR
  split
  · rename_i h
    simp only [Bool.and_eq_true, wayShift, decide_eq_true_eq] at h
    exact .inr ⟨h.1, rfl, by omega, by omega, by omega, by omega⟩
  · exact .inl rfl

theorem shift_has {r : Rc} {dx dy : Int} (h : emptyR r = false → shiftR r dx dy ≠ zeroRc) (x y : Int) : hasR (shiftR r dx dy) x y = hasR r (x - dx) (y - dy) := by
  rw [Bool.eq_iff_iff, has_iff, has_iff]
  rcases shift_cases r dx dy with e | ⟨e1, e2, e3, e4, e5, e6⟩
  · cases he : emptyR r
    · exact absurd e (h he)
    · rw [e, zero_empty]; simp
  · rw [e2]
    have : emptyR (tr dx dy r) = emptyR r := by
      rw [Bool.eq_iff_iff, emptyR_true, emptyR_true]
      have hg : (-1048576 ≤ r.x ∧ 0 ≤ r.a ∧ r.a ≤ 1048576 - r.x) ∧ (-1048576 ≤ r.y ∧ 0 ≤ r.b ∧ r.b ≤ 1048576 - r.y) := by simpa [goodR, wayGood] using e1
      simp only [tr]
      omega
    rw [this]
    simp only [tr]
    constructor <;> rintro ⟨a, b, c⟩ <;> exact ⟨a, by omega, by omega⟩

theorem shift_pix {l : List Rc} {dx dy : Int} (h : ∀ r ∈ l, emptyR r = false → shiftR r dx dy ≠ zeroRc) (x y : Int) : pix (shiftL l dx dy) x y = pix l (x - dx) (y - dy) := by
  rw [Bool.eq_iff_iff, pix_iff, pix_iff]
  constructor
  · rintro ⟨r, hr, hh⟩
    obtain ⟨q, hq, rfl⟩ := List.mem_map.1 hr
    exact ⟨q, hq, by rw [← shift_has (h q hq)]; exact hh⟩
  · rintro ⟨r, hr, hh⟩
    exact ⟨_, List.mem_map.2 ⟨r, hr, rfl⟩, by rw [shift_has (h r hr)]; exact hh⟩

/-- The list in form of shifted rectangles is that of the rectangles, shifted. -/
theorem shift_form {l : List Rc} {dx dy : Int} (h : ∀ r ∈ l, emptyR r = false → shiftR r dx dy ≠ zeroRc) : formL (fun p _ => p) (shiftL l dx dy) [] = (formL (fun p _ => p) l []).map (tr dx dy) := by
  have h1 := bands_sem (fun p _ => p) rfl (shiftL l dx dy) []
  have h2 := bands_sem (fun p _ => p) rfl l []
  have e := canon_unique h1.1 (h2.1.tr (dx := dx) (dy := dy)) (fun x y => by rw [h1.2, inB_tr, h2.2, shift_pix h])
  rw [formL, formL, e, List.map_flatten]

theorem shift_area {l : List Rc} {dx dy : Int} (h : ∀ r ∈ l, emptyR r = false → shiftR r dx dy ≠ zeroRc) : areaS (formL (fun p _ => p) (shiftL l dx dy) []) = areaS (formL (fun p _ => p) l []) := by
  have f1 := form_full (fun p _ => p) rfl (shiftL l dx dy) []
  have f2 := form_full (fun p _ => p) rfl l []
  rw [shift_form h] at f1 ⊢
  generalize formL (fun p _ => p) l [] = m at f1 f2 ⊢
  induction m with
  | nil => rfl
  | cons r m ih =>
    have ih := ih (fun s hs => f1 s (by simp at hs ⊢; exact .inr hs)) (fun s hs => f2 s (by simp [hs]))
    have a1 := f1 (tr dx dy r) (by simp)
    have a2 := f2 r (by simp)
    simp only [areaS, List.map_cons, List.sum_cons] at ih ⊢
    rw [ih, areaR, areaR, a1, a2]
    simp [tr]

theorem shift_back {l : List Rc} {dx dy : Int} (h : ∀ r ∈ l, emptyR r = false → shiftR r dx dy ≠ zeroRc) : shiftL (formL (fun p _ => p) (shiftL l dx dy) []) (-dx) (-dy) = formL (fun p _ => p) l [] := by
  have f1 := form_full (fun p _ => p) rfl (shiftL l dx dy) []
  have f2 := form_full (fun p _ => p) rfl l []
  rw [shift_form h] at f1 ⊢
  generalize formL (fun p _ => p) l [] = m at f1 f2 ⊢
  induction m with
  | nil => rfl
  | cons r m ih =>
    have ih := ih (fun s hs => f1 s (by simp at hs ⊢; exact .inr hs)) (fun s hs => f2 s (by simp [hs]))
    have a1 := f1 (tr dx dy r) (by simp)
    have a2 := emptyR_false.1 (f2 r (by simp))
    have a3 := emptyR_false.1 a1
    simp only [shiftL, List.map_cons] at ih ⊢
    rw [ih]
    congr 1
    have g := good_of_empty a1
    unfold shiftR
    rw [if_pos (by simp only [tr] at a3 g ⊢; simp [g, wayShift]; omega)]
    refine Rc.eq_of ?_ ?_ rfl rfl <;> simp [tr] <;> omega

theorem shift_again (l : List Rc) : formL (fun p _ => p) (formL (fun p _ => p) l []) [] = formL (fun p _ => p) l [] :=
  form_unique rfl rfl (fun x y => pix_ofform l x y)

/-- A row of one band. -/
def isBandB : List Rc → Bool
  | [] => true
  | r :: l => (r :: l).all (fun s => s.b == r.b) && ((r :: l).zip l).all (fun p => decide (p.1.x + p.1.a < p.2.x))

def followsB (above band : List Rc) : Bool :=
  match above, band with
  | a :: _, b :: _ => decide (a.y + a.b ≤ b.y) && !goesOnB above band
  | _, _ => true

def isRows : List Rc → List (List Rc) → Bool
  | _, [] => true
  | above, row :: rows => (isBandB row && followsB above row) && isRows row rows

def isL (l : List Rc) : Bool := !l.any emptyR && isRows [] ((grp Rc.y l).map (·.2))

theorem isBandB_chain {l : List Rc} (hf : ∀ r ∈ l, emptyR r = false) (h : isBandB l = true) : Chain l ∧ ∀ r ∈ l, ∀ s ∈ l, r.b = s.b := by
  cases l with
  | nil => exact ⟨trivial, by simp⟩
  | cons r l =>
    simp only [isBandB, Bool.and_eq_true] at h
    obtain ⟨h1, h2⟩ := h
    refine ⟨?_, ?_⟩
    · clear h1
      induction l generalizing r with
      | nil => exact ⟨(emptyR_false.1 (hf r (by simp))).1.2.1, by simp, trivial⟩
      | cons s l ih =>
        simp only [List.zip_cons_cons, List.all_cons, Bool.and_eq_true, decide_eq_true_eq] at h2
        have hc := ih s (fun q hq => hf q (by simp at hq ⊢; exact .inr hq)) h2.2
        have hs := (emptyR_false.1 (hf s (by simp))).1.2.1
        refine ⟨(emptyR_false.1 (hf r (by simp))).1.2.1, fun q hq => ?_, hc⟩
        rcases List.mem_cons.1 hq with rfl | hq
        · exact h2.1
        · have := hc.2.1 q hq; omega
    · intro q hq s hs
      have e1 := List.all_eq_true.1 h1 q hq
      have e2 := List.all_eq_true.1 h1 s hs
      simp at e1 e2
      rw [e1, e2]

theorem chain_isBandB {l : List Rc} (h : Chain l) (hb : ∀ r ∈ l, ∀ s ∈ l, r.b = s.b) : isBandB l = true := by
  cases l with
  | nil => rfl
  | cons r l =>
    simp only [isBandB, Bool.and_eq_true]
    refine ⟨List.all_eq_true.2 (fun s hs => by simpa using hb s hs r (by simp)), ?_⟩
    clear hb
    induction l generalizing r with
    | nil => rfl
    | cons s l ih =>
      simp only [List.zip_cons_cons, List.all_cons, Bool.and_eq_true, decide_eq_true_eq]
      exact ⟨h.2.1 s (by simp), ih s h.2.2⟩

theorem isRows_canon : ∀ {rows : List (List Rc)} {above : List Rc} {t h : Int}, (∀ g ∈ rows, g ≠ [] ∧ ∃ c, ∀ r ∈ g, r.y = c) → (∀ g ∈ rows, ∀ r ∈ g, emptyR r = false) → isRows above rows = true → Band above t h →
    Canon (above :: rows)
  | [], above, t, h, _, _, _, hb => ⟨⟨t, h, hb, by simp⟩, by simp, trivial⟩
  | row :: rows, above, t, h, hk, hf, hi, hb => by
    simp only [isRows, Bool.and_eq_true] at hi
    obtain ⟨⟨i1, i2⟩, i3⟩ := hi
    obtain ⟨hne, c, hc⟩ := hk row (by simp)
    obtain ⟨c1, c2⟩ := isBandB_chain (hf row (by simp)) i1
    have hrow : ∃ k, Band row c k ∧ t + h ≤ c ∧ goesOnB above row = false := by
      cases hr : row with
      | nil => exact (hne hr).elim
      | cons r l =>
        cases ha : above with
        | nil => exact (hb.1 ha).elim
        | cons q m =>
          have e0 := hf row (by simp) r (by rw [hr]; simp)
          have e1 := hc r (by rw [hr]; simp)
          have e2 := hb.2.2.2 q (by rw [ha]; simp)
          rw [hr, ha] at i2
          simp only [followsB, Bool.and_eq_true, decide_eq_true_eq, Bool.not_eq_true'] at i2
          refine ⟨r.b, ⟨by simp, by rw [← hr]; exact c1, (emptyR_false.1 e0).2.2.1, fun s hs => ⟨hc s (by rw [hr]; exact hs), c2 s (by rw [hr]; exact hs) r (by rw [hr]; simp)⟩⟩, by omega, i2.2⟩
    obtain ⟨k, hB, hle, hgo⟩ := hrow
    have ih := isRows_canon (fun g hg => hk g (by simp [hg])) (fun g hg => hf g (by simp [hg])) i3 hB
    refine ⟨⟨t, h, hb, fun d hd r hr => ?_⟩, fun d hd => by cases hd; exact hgo, ih⟩
    obtain ⟨⟨t2, k2, hB2, hl2⟩, _, _⟩ := ih
    have hkp := hB.2.2.1
    rcases List.mem_cons.1 hd with rfl | hd
    · have := hc r hr; omega
    · have := hl2 d hd r hr
      have hk2 := hB2.2.2.1
      cases hr0 : row with
      | nil => exact (hne hr0).elim
      | cons q m =>
        have e1 := hB2.2.2.2 q (by rw [hr0]; simp)
        have e2 := hc q (by rw [hr0]; simp)
        omega

theorem canon_isRows : ∀ {bs : List (List Rc)} {above : List Rc}, Canon bs → (above = [] ∨ Canon (above :: bs)) → isRows above bs = true
  | [], _, _, _ => rfl
  | b :: bs, above, h, ha => by
    simp only [isRows, Bool.and_eq_true]
    have hh := h
    obtain ⟨⟨t, k, hb, hl⟩, hg, hc⟩ := h
    refine ⟨⟨chain_isBandB hb.2.1 (fun r hr s hs => by rw [(hb.2.2.2 r hr).2, (hb.2.2.2 s hs).2]), ?_⟩, canon_isRows hc (.inr hh)⟩
    rcases ha with rfl | ha
    · rfl
    · obtain ⟨⟨t', k', hb', hl'⟩, hg', _⟩ := ha
      cases above with
      | nil => rfl
      | cons q m =>
        cases b with
        | nil => rfl
        | cons r l =>
          have e1 := hl' (r :: l) (by simp) r (by simp)
          have e2 := hb'.2.2.2 q (by simp)
          have e3 := hg' (r :: l) rfl
          simp only [followsB, e3, Bool.and_eq_true, decide_eq_true_eq]
          exact ⟨by omega, rfl⟩

theorem grp_canon : ∀ {bs : List (List Rc)}, Canon bs → (grp Rc.y bs.flatten).map (·.2) = bs
  | [], _ => rfl
  | b :: bs, h => by
    have hband := Canon.band h
    obtain ⟨⟨t, k, hb, hl⟩, hg, hc⟩ := h
    have ih := grp_canon hc
    rw [List.flatten_cons, grp_run Rc.y t b bs.flatten hb.1 (fun r hr => (hb.2.2.2 r hr).1) (fun r hr => ?_)]
    · rw [List.map_cons, ih]
    · have hr' : r ∈ bs.flatten := List.mem_of_mem_head? hr
      obtain ⟨c, hc', hr'⟩ := List.mem_flatten.1 hr'
      have := hl c hc' r hr'
      have := hb.2.2.1
      omega

theorem flat_snd (gs : List (Int × List Rc)) : (gs.map (·.2)).flatten = gs.flatMap (·.2) := by
  rw [List.flatMap_def]

/-- Whether a list is in form is whether it is its own. -/
theorem isL_iff (l : List Rc) : isL l = true ↔ l = formL (fun p _ => p) l [] := by
  constructor
  · intro h
    simp only [isL, Bool.and_eq_true, Bool.not_eq_true'] at h
    obtain ⟨h1, h2⟩ := h
    have hf : ∀ r ∈ l, emptyR r = false := fun r hr => by
      cases he : emptyR r
      · rfl
      · rw [List.any_eq_true.2 ⟨r, hr, he⟩] at h1; cases h1
    have hflat : ((grp Rc.y l).map (·.2)).flatten = l := by rw [flat_snd, grp_flat]
    have hkey : ∀ g ∈ (grp Rc.y l).map (·.2), g ≠ [] ∧ ∃ c, ∀ r ∈ g, r.y = c := by
      intro g hg
      obtain ⟨p, hp, rfl⟩ := List.mem_map.1 hg
      obtain ⟨x, hx, _⟩ := grp_ne (c := p.1) (g := p.2) hp
      exact ⟨List.ne_nil_of_mem hx, p.1, grp_keyed (c := p.1) (g := p.2) hp⟩
    have hfull : ∀ g ∈ (grp Rc.y l).map (·.2), ∀ r ∈ g, emptyR r = false := fun g hg r hr => hf r (by rw [← hflat]; exact List.mem_flatten.2 ⟨g, hg, hr⟩)
    have hcan : Canon ((grp Rc.y l).map (·.2)) := by
      generalize (grp Rc.y l).map (·.2) = rows at h2 hkey hfull
      cases rows with
      | nil => trivial
      | cons row rows =>
        simp only [isRows, Bool.and_eq_true] at h2
        obtain ⟨⟨i1, i2⟩, i3⟩ := h2
        obtain ⟨hne, c, hc⟩ := hkey row (by simp)
        obtain ⟨c1, c2⟩ := isBandB_chain (hfull row (by simp)) i1
        cases hr : row with
        | nil => exact (hne hr).elim
        | cons r m =>
          rw [← hr]
          have hB : Band row c r.b := ⟨hne, c1, (emptyR_false.1 (hfull row (by simp) r (by rw [hr]; simp))).2.2.1, fun s hs => ⟨hc s hs, c2 s hs r (by rw [hr]; simp)⟩⟩
          exact isRows_canon (fun g hg => hkey g (by simp [hg])) (fun g hg => hfull g (by simp [hg])) i3 hB
    have := form_canon (mf := fun p _ => p) (a := l) (b := []) rfl hcan hfull (fun x y => by rw [hflat])
    rw [formL, this, hflat]
  · intro h
    have h1 := bands_sem (fun p _ => p) rfl l []
    have hf := form_full (fun p _ => p) rfl l []
    simp only [isL, Bool.and_eq_true, Bool.not_eq_true']
    constructor
    · cases he : l.any emptyR
      · rfl
      · obtain ⟨r, hr, h2⟩ := List.any_eq_true.1 he
        rw [h] at hr
        rw [hf r hr] at h2; cases h2
    · have e := grp_canon h1.1
      have e2 : formL (fun p _ => p) l [] = (bandsOf (stripsL (fun p _ => p) l [])).flatten := rfl
      rw [h, e2, e]
      exact canon_isRows h1.1 (.inl rfl)

theorem isL_eq (l : List Rc) : isL l = eqRs l (formL (fun p _ => p) l []) := by
  rw [Bool.eq_iff_iff, isL_iff, eqRs_iff]

theorem isL_form (mf : Bool → Bool → Bool) (hff : mf false false = false) (a b : List Rc) : isL (formL mf a b) = true := by
  rw [isL_iff]
  exact form_unique hff rfl (fun x y => (pix_form mf hff a b x y).symm)

/-- The least rectangle of all. -/
def boundsL (l : List Rc) : Rc := l.foldl orR zeroRc

theorem has_or_left {r s : Rc} {x y : Int} (h : hasR r x y = true) : hasR (orR r s) x y = true := by
  obtain ⟨e, h1, h2⟩ := has_iff.1 h
  rcases or_spec r s with ⟨a, _⟩ | ⟨a, _⟩ | ⟨_, _, c⟩ | ⟨_, _, c, d⟩
  · rw [e] at a; cases a
  · rw [e] at a; cases a
  · rw [c]; exact h
  · rw [c]
    refine has_iff.2 ⟨d, ?_, ?_⟩ <;> simp only [allR] <;> omega
theorem has_or_right {r s : Rc} {x y : Int} (h : hasR s x y = true) : hasR (orR r s) x y = true := by
  obtain ⟨e, h1, h2⟩ := has_iff.1 h
  rcases or_spec r s with ⟨_, a, _⟩ | ⟨_, a, c⟩ | ⟨_, a, c⟩ | ⟨_, _, c, d⟩
  · rw [e] at a; cases a
  · rw [c]; exact h
  · rw [e] at a; cases a
  · rw [c]
    refine has_iff.2 ⟨d, ?_, ?_⟩ <;> simp only [allR] <;> omega

theorem bounds_has {l : List Rc} {x y : Int} (h : pix l x y = true) : hasR (boundsL l) x y = true := by
  have key : ∀ (l : List Rc) (q : Rc), hasR q x y = true ∨ pix l x y = true → hasR (l.foldl orR q) x y = true := by
    intro l
    induction l with
    | nil => intro q h; rcases h with h | h
             · exact h
             · cases h
    | cons r l ih =>
      intro q h
      refine ih _ ?_
      rcases h with h | h
      · exact .inl (has_or_left h)
      · have h : (hasR r x y || pix l x y) = true := h
        rcases Bool.or_eq_true_iff.1 h with h | h
        · exact .inl (has_or_right h)
        · exact .inr h
  exact key l _ (.inr h)

theorem bounds_fit {l : List Rc} (h : ∀ r ∈ l, Fit r) : Fit (boundsL l) := by
  have key : ∀ (l : List Rc) (q : Rc), Fit q → (∀ r ∈ l, Fit r) → Fit (l.foldl orR q) := by
    intro l
    induction l with
    | nil => intro q h _; exact h
    | cons r l ih => intro q h hl; exact ih _ (or_fit h (hl r (by simp))) (fun s hs => hl s (by simp [hs]))
  exact key l _ ⟨by decide, by decide⟩ h

theorem full_fit {r : Rc} (h : emptyR r = false) : Fit r := by
  have := emptyR_false.1 h
  exact ⟨by omega, by omega⟩
theorem form_fit (mf : Bool → Bool → Bool) (hff : mf false false = false) (a b : List Rc) : ∀ r ∈ formL mf a b, Fit r := fun r hr => full_fit (form_full mf hff a b r hr)

end Go.Proofs.YtajoipmchgabfaaGreat
