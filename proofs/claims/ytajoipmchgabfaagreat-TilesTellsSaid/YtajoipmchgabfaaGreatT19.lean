/- Plain facts: a set of pixels has one list of bands in form; what the bands of two lists are. -/
import Derived.Test.YtajoipmchgabfaaGreatT18
import Derived.Test.YtajoipmchgabfaaGreatT3
namespace Go.Proofs.YtajoipmchgabfaaGreat

theorem strip_sem (mf : Bool → Bool → Bool) (hff : mf false false = false) (a b : List Rc) (t y : Int) : Chain (stripC mf a b t y) ∧ (∀ r ∈ stripC mf a b t y, r.y = t ∧ r.b = y - t) ∧ ∀ x, inX (stripC mf a b t y) x ↔ mf (inRow (act a t) x) (inRow (act b t) x) = true :=
  cut_out_sem mf hff t y (act a t) (act b t) act_pos act_pos (srt (sidesAt a b t)) (srt_sorted _) (srt_perm _)

theorem keys_sorted (a b : List Rc) : (keysOf a b).Pairwise (· < ·) := grp_keys (srt_sorted _)

theorem mem_keysOf {a b : List Rc} {x : Int} : x ∈ keysOf a b ↔ ∃ r, (r ∈ a ∨ r ∈ b) ∧ emptyR r = false ∧ (x = r.y ∨ x = r.y + r.b) := by
  rw [keysOf, mem_keys]
  constructor
  · rintro ⟨e, he, rfl⟩
    rcases mem_downs.1 ((srt_perm _).mem_iff.1 he) with ⟨r, hr, h0, h | h⟩ | ⟨r, hr, h0, h | h⟩ <;> subst h
    · exact ⟨r, .inl hr, h0, .inl rfl⟩
    · exact ⟨r, .inl hr, h0, .inr rfl⟩
    · exact ⟨r, .inr hr, h0, .inl rfl⟩
    · exact ⟨r, .inr hr, h0, .inr rfl⟩
  · rintro ⟨r, hr | hr, h0, h | h⟩
    · exact ⟨⟨r.y, 0, 1, r⟩, (srt_perm _).mem_iff.2 (mem_downs.2 (.inl ⟨r, hr, h0, .inl rfl⟩)), h.symm⟩
    · exact ⟨⟨r.y + r.b, 0, -1, r⟩, (srt_perm _).mem_iff.2 (mem_downs.2 (.inl ⟨r, hr, h0, .inr rfl⟩)), h.symm⟩
    · exact ⟨⟨r.y, 1, 1, r⟩, (srt_perm _).mem_iff.2 (mem_downs.2 (.inr ⟨r, hr, h0, .inl rfl⟩)), h.symm⟩
    · exact ⟨⟨r.y + r.b, 1, -1, r⟩, (srt_perm _).mem_iff.2 (mem_downs.2 (.inr ⟨r, hr, h0, .inr rfl⟩)), h.symm⟩

/-- The pixels of a list. -/
def pix (l : List Rc) (x y : Int) : Bool := l.any fun r => hasR r x y

theorem pix_iff {l : List Rc} {x y : Int} : pix l x y = true ↔ ∃ r ∈ l, hasR r x y = true := by simp [pix]
theorem pix_nil (x y : Int) : pix [] x y = false := rfl
theorem pix_append (l m : List Rc) (x y : Int) : pix (l ++ m) x y = (pix l x y || pix m x y) := by simp [pix]

theorem inRow_act (a : List Rc) (x y : Int) : inRow (act a y) x = pix a x y := by
  rw [Bool.eq_iff_iff, pix_iff]
  simp only [inRow, act, List.any_eq_true, List.mem_filter, decide_eq_true_eq]
  constructor
  · rintro ⟨r, ⟨hr, hl⟩, hx⟩
    simp only [liveAt, Bool.and_eq_true, Bool.not_eq_true', decide_eq_true_eq] at hl
    exact ⟨r, hr, has_iff.2 ⟨hl.1, hx, hl.2⟩⟩
  · rintro ⟨r, hr, h⟩
    obtain ⟨h1, h2, h3⟩ := has_iff.1 h
    exact ⟨r, ⟨hr, by simp [liveAt, h1, h3]⟩, h2⟩

/-- A row of rectangles of one place and one height, from the left, apart. -/
def Band (b : List Rc) (t h : Int) : Prop := b ≠ [] ∧ Chain b ∧ 0 < h ∧ ∀ r ∈ b, r.y = t ∧ r.b = h

def inRc (r : Rc) (x y : Int) : Prop := (r.x ≤ x ∧ x < r.x + r.a) ∧ (r.y ≤ y ∧ y < r.y + r.b)
def inB (bs : List (List Rc)) (x y : Int) : Prop := ∃ b ∈ bs, ∃ r ∈ b, inRc r x y

theorem inB_cons {b : List Rc} {bs : List (List Rc)} {x y : Int} : inB (b :: bs) x y ↔ (∃ r ∈ b, inRc r x y) ∨ inB bs x y := by simp [inB]
theorem inB_nil {x y : Int} : ¬ inB [] x y := by simp [inB]
theorem inB_append {bs cs : List (List Rc)} {x y : Int} : inB (bs ++ cs) x y ↔ inB bs x y ∨ inB cs x y := by
  simp only [inB, List.mem_append]
  constructor
  · rintro ⟨b, h | h, hr⟩
    · exact .inl ⟨b, h, hr⟩
    · exact .inr ⟨b, h, hr⟩
  · rintro (⟨b, h, hr⟩ | ⟨b, h, hr⟩)
    · exact ⟨b, .inl h, hr⟩
    · exact ⟨b, .inr h, hr⟩

theorem Band.row {b : List Rc} {t h : Int} (hb : Band b t h) {x y : Int} : (∃ r ∈ b, inRc r x y) ↔ inX b x ∧ t ≤ y ∧ y < t + h := by
  constructor
  · rintro ⟨r, hr, h1, h2⟩
    have := hb.2.2.2 r hr
    exact ⟨⟨r, hr, h1⟩, by omega⟩
  · rintro ⟨⟨r, hr, h1⟩, h2⟩
    have := hb.2.2.2 r hr
    exact ⟨r, hr, h1, by omega⟩

theorem Band.first {b : List Rc} {t h : Int} (hb : Band b t h) : ∃ x, inX b x := by
  obtain ⟨h0, h1, _⟩ := hb
  cases b with
  | nil => exact (h0 rfl).elim
  | cons r l => exact ⟨r.x, r, by simp, by omega, by have := h1.1; omega⟩

theorem sameCols_iff : ∀ {l m : List Rc}, sameCols l m = true ↔ cols l = cols m
  | [], [] => by simp [sameCols, cols]
  | [], s :: m => by simp [sameCols, cols]
  | r :: l, [] => by simp [sameCols, cols]
  | r :: l, s :: m => by
    have := @sameCols_iff l m
    simp only [cols] at this
    simp only [sameCols, Bool.and_eq_true, beq_iff_eq, cols, List.map_cons, List.cons.injEq, Prod.mk.injEq, this]

theorem cols_len {l m : List Rc} (h : cols l = cols m) : l.length = m.length := by
  have := congrArg List.length h
  simpa [cols] using this

theorem goesOn_iff {b c : List Rc} {t h t' h' : Int} (hb : Band b t h) (hc : Band c t' h') : goesOnB b c = true ↔ cols b = cols c ∧ t + h = t' := by
  obtain ⟨b0, _, _, b3⟩ := hb
  obtain ⟨c0, _, _, c3⟩ := hc
  cases b with
  | nil => exact (b0 rfl).elim
  | cons r l =>
    cases c with
    | nil => exact (c0 rfl).elim
    | cons s m =>
      have e1 := b3 r (by simp)
      have e2 := c3 s (by simp)
      simp only [goesOnB, Bool.and_eq_true, decide_eq_true_eq, sameCols_iff]
      constructor
      · rintro ⟨_, h2, h3⟩
        exact ⟨h3.symm, by omega⟩
      · rintro ⟨h1, h2⟩
        exact ⟨by have := cols_len h1; simpa using this, by omega, h1.symm⟩

/-- Bands in form, from the top. -/
def Canon : List (List Rc) → Prop
  | [] => True
  | b :: bs => (∃ t h, Band b t h ∧ ∀ c ∈ bs, ∀ r ∈ c, t + h ≤ r.y) ∧ (∀ c, bs.head? = some c → goesOnB b c = false) ∧ Canon bs

theorem Canon.band {bs : List (List Rc)} (h : Canon bs) : ∀ b ∈ bs, ∃ t h, Band b t h := by
  induction bs with
  | nil => simp
  | cons b bs ih =>
    intro c hc
    rcases List.mem_cons.1 hc with rfl | hc
    · obtain ⟨t, k, h1, _⟩ := h.1
      exact ⟨t, k, h1⟩
    · exact ih h.2.2 c hc

theorem low_none {bs : List (List Rc)} {k x y : Int} (h : ∀ c ∈ bs, ∀ r ∈ c, k ≤ r.y) (hy : y < k) : ¬ inB bs x y := by
  rintro ⟨c, hc, r, hr, _, h2, _⟩
  have := h c hc r hr
  omega

theorem canon_half {b c : List Rc} {bs cs : List (List Rc)} {t h t' h' : Int} (hb : Band b t h) (hbl : ∀ c ∈ bs, ∀ r ∈ c, t + h ≤ r.y) (hbg : ∀ c, bs.head? = some c → goesOnB b c = false) (hB : Canon bs) (hc : Band c t' h') (hcl : ∀ d ∈ cs, ∀ r ∈ d, t' + h' ≤ r.y) (ht : t = t') (he : ∀ x y, inB (b :: bs) x y ↔ inB (c :: cs) x y) : ¬ h < h' := by
  intro hlt
  subst ht
  have hpos := hb.2.2.1
  have rowb : ∀ x, inB (b :: bs) x t ↔ inX b x := fun x => by
    rw [inB_cons, hb.row]
    constructor
    · rintro (h1 | h1)
      · exact h1.1
      · exact (low_none hbl (by omega) h1).elim
    · intro h1; exact .inl ⟨h1, by omega, by omega⟩
  have rowc : ∀ x y, t ≤ y → y < t + h' → (inB (c :: cs) x y ↔ inX c x) := fun x y h1 h2 => by
    rw [inB_cons, hc.row]
    constructor
    · rintro (h3 | h3)
      · exact h3.1
      · exact (low_none hcl (by omega) h3).elim
    · intro h3; exact .inl ⟨h3, by omega, by omega⟩
  have same : ∀ x, inX b x ↔ inX c x := fun x => by rw [← rowb x, he, rowc x t (by omega) (by omega)]
  have next : ∀ x, inB bs x (t + h) ↔ inX b x := fun x => by
    have h1 := he x (t + h)
    rw [rowc x (t + h) (by omega) (by omega), ← same x, inB_cons, hb.row] at h1
    rw [← h1]
    constructor
    · intro h2; exact .inr h2
    · rintro (h2 | h2)
      · omega
      · exact h2
  obtain ⟨x0, hx0⟩ := hb.first
  have hx1 := (next x0).2 hx0
  cases bs with
  | nil => exact inB_nil hx1
  | cons b2 bs =>
    obtain ⟨⟨t2, k2, h2, h2l⟩, _, _⟩ := hB
    have ht2 : t + h = t2 := by
      have hge : t + h ≤ t2 := by
        cases hb2 : b2 with
        | nil => exact (h2.1 hb2).elim
        | cons r l =>
          have := hbl b2 (by simp) r (by rw [hb2]; simp)
          have := (h2.2.2.2 r (by rw [hb2]; simp)).1
          omega
      rcases inB_cons.1 hx1 with h3 | h3
      · have := h2.row.1 h3; omega
      · have := low_none h2l (y := t + h) (x := x0)
        by_cases h4 : t + h < t2 + k2
        · exact (this h4 h3).elim
        · have := h2.2.2.1; omega
    have hsame2 : ∀ x, inX b2 x ↔ inX b x := fun x => by
      rw [← next x, inB_cons, h2.row]
      have hk := h2.2.2.1
      constructor
      · intro h3; exact .inl ⟨h3, by omega, by omega⟩
      · rintro (h3 | h3)
        · exact h3.1
        · exact (low_none h2l (by omega) h3).elim
    have hcols := cols_unique hb.2.1 h2.2.1 (fun x => (hsame2 x).symm)
    have := hbg b2 rfl
    rw [(goesOn_iff hb h2).2 ⟨hcols, ht2⟩] at this
    cases this

/-- A set of pixels has one list of bands. -/
theorem canon_unique : ∀ {bs cs : List (List Rc)}, Canon bs → Canon cs → (∀ x y, inB bs x y ↔ inB cs x y) → bs = cs
  | [], [], _, _, _ => rfl
  | [], c :: cs, _, hc, h => by
    obtain ⟨⟨t, k, h1, _⟩, _⟩ := hc
    obtain ⟨x, hx⟩ := h1.first
    have hk := h1.2.2.1
    exact (inB_nil ((h x t).2 (inB_cons.2 (.inl (h1.row.2 ⟨hx, by omega, by omega⟩))))).elim
  | b :: bs, [], hb, _, h => by
    obtain ⟨⟨t, k, h1, _⟩, _⟩ := hb
    obtain ⟨x, hx⟩ := h1.first
    have hk := h1.2.2.1
    exact (inB_nil ((h x t).1 (inB_cons.2 (.inl (h1.row.2 ⟨hx, by omega, by omega⟩))))).elim
  | b :: bs, c :: cs, hb, hc, he => by
    obtain ⟨⟨t, h, hb1, hbl⟩, hbg, hB⟩ := hb
    obtain ⟨⟨t', h', hc1, hcl⟩, hcg, hC⟩ := hc
    have hp := hb1.2.2.1
    have hp' := hc1.2.2.1
    have lowest : ∀ {b : List Rc} {bs : List (List Rc)} {t h x y : Int}, Band b t h → (∀ c ∈ bs, ∀ r ∈ c, t + h ≤ r.y) → inB (b :: bs) x y → t ≤ y := by
      intro b bs t h x y hb hl hi
      rcases inB_cons.1 hi with h1 | h1
      · exact (hb.row.1 h1).2.1
      · by_cases h2 : y < t + h
        · exact (low_none hl h2 h1).elim
        · have := hb.2.2.1; omega
    have ht : t = t' := by
      obtain ⟨x, hx⟩ := hb1.first
      obtain ⟨x', hx'⟩ := hc1.first
      have h1 := lowest hc1 hcl ((he x t).1 (inB_cons.2 (.inl (hb1.row.2 ⟨hx, by omega, by omega⟩))))
      have h2 := lowest hb1 hbl ((he x' t').2 (inB_cons.2 (.inl (hc1.row.2 ⟨hx', by omega, by omega⟩))))
      omega
    have hh : h = h' := by
      have h1 := canon_half hb1 hbl hbg hB hc1 hcl ht he
      have h2 := canon_half hc1 hcl hcg hC hb1 hbl ht.symm (fun x y => (he x y).symm)
      omega
    subst ht hh
    have row : ∀ {b : List Rc} {bs : List (List Rc)}, Band b t h → (∀ c ∈ bs, ∀ r ∈ c, t + h ≤ r.y) → ∀ x, inB (b :: bs) x t ↔ inX b x := fun hb hl x => by
      rw [inB_cons, hb.row]
      constructor
      · rintro (h1 | h1)
        · exact h1.1
        · exact (low_none hl (by omega) h1).elim
      · intro h1; exact .inl ⟨h1, by omega, by omega⟩
    have hcols := cols_unique hb1.2.1 hc1.2.1 (fun x => by rw [← row hb1 hbl x, he, row hc1 hcl x])
    have e := list_cols hcols hb1.2.2.2 hc1.2.2.2
    subst e
    congr 1
    refine canon_unique hB hC (fun x y => ?_)
    have h1 := he x y
    rw [inB_cons, inB_cons, hb1.row] at h1
    by_cases hy : y < t + h
    · exact ⟨fun h2 => (low_none hbl hy h2).elim, fun h2 => (low_none hcl hy h2).elim⟩
    · constructor
      · intro h2
        rcases h1.1 (.inr h2) with h3 | h3
        · omega
        · exact h3
      · intro h2
        rcases h1.2 (.inr h2) with h3 | h3
        · omega
        · exact h3

/-- Strips put together to bands, from the front. -/
def bandsR (above : List Rc) : List (List Rc) → List (List Rc)
  | [] => if above = [] then [] else [above]
  | st :: l => if goesOnB above st = true then bandsR (above.map (higher ((st.map (·.b)).headD 0))) l else (if above = [] then [] else [above]) ++ bandsR st l

theorem bandsR_fold (l : List (List Rc)) : ∀ (d : List (List Rc)) (ab : List Rc), (if (l.foldl bandStep (d, ab)).2 = [] then (l.foldl bandStep (d, ab)).1 else (l.foldl bandStep (d, ab)).1 ++ [(l.foldl bandStep (d, ab)).2]) = d ++ bandsR ab l := by
  induction l with
  | nil =>
    intro d ab
    show (if ab = [] then d else d ++ [ab]) = d ++ (if ab = [] then [] else [ab])
    by_cases h : ab = [] <;> simp [h]
  | cons st l ih =>
    intro d ab
    rw [List.foldl_cons, bandsR]
    simp only [bandStep]
    split
    · exact ih d _
    · rw [ih]
      split <;> simp

theorem bandsOf_R (l : List (List Rc)) : bandsOf l = bandsR [] l := by
  have := bandsR_fold l [] []
  rw [List.nil_append] at this
  exact this

/-- Strips from the top, one below the other. -/
def Seq (k : Int) : List (List Rc) → Prop
  | [] => True
  | st :: l => ∃ t h, Band st t h ∧ k ≤ t ∧ Seq (t + h) l

theorem Seq.mono {k k' : Int} {l : List (List Rc)} (h : Seq k l) (hk : k' ≤ k) : Seq k' l := by
  cases l with
  | nil => trivial
  | cons st l =>
    obtain ⟨t, h', h1, h2, h3⟩ := h
    exact ⟨t, h', h1, by omega, h3⟩

theorem Seq.low {k : Int} {l : List (List Rc)} (h : Seq k l) : ∀ c ∈ l, ∀ r ∈ c, k ≤ r.y := by
  induction l generalizing k with
  | nil => simp
  | cons st l ih =>
    obtain ⟨t, h', h1, h2, h3⟩ := h
    intro c hc r hr
    rcases List.mem_cons.1 hc with rfl | hc
    · have := (h1.2.2.2 r hr).1; omega
    · have := ih h3 c hc r hr
      have := h1.2.2.1
      omega

theorem Chain.higher {b : List Rc} (n : Int) (h : Chain b) : Chain (b.map (higher n)) := by
  induction b with
  | nil => trivial
  | cons r l ih =>
    refine ⟨h.1, fun s hs => ?_, ih h.2.2⟩
    obtain ⟨q, hq, rfl⟩ := List.mem_map.1 hs
    exact h.2.1 q hq

theorem cols_higher (b : List Rc) (n : Int) : cols (b.map (higher n)) = cols b := by
  simp [cols, higher, Function.comp_def]

theorem Band.higher {b : List Rc} {t h : Int} (hb : Band b t h) (n : Int) (hn : 0 < n) : Band (b.map (higher n)) t (h + n) := by
  refine ⟨by simpa using hb.1, hb.2.1.higher n, by have := hb.2.2.1; omega, fun r hr => ?_⟩
  obtain ⟨q, hq, rfl⟩ := List.mem_map.1 hr
  have := hb.2.2.2 q hq
  simp [Go.Proofs.YtajoipmchgabfaaGreat.higher]
  omega

theorem inX_cols {l m : List Rc} (h : cols l = cols m) (x : Int) : inX l x ↔ inX m x := by
  have key : ∀ l : List Rc, inX l x ↔ ∃ p ∈ cols l, p.1 ≤ x ∧ x < p.1 + p.2 := fun l => by
    constructor
    · rintro ⟨r, hr, h⟩; exact ⟨(r.x, r.a), List.mem_map.2 ⟨r, hr, rfl⟩, h⟩
    · rintro ⟨p, hp, h⟩
      obtain ⟨r, hr, rfl⟩ := List.mem_map.1 hp
      exact ⟨r, hr, h⟩
  rw [key, key, h]

theorem Band.headB {b : List Rc} {t h : Int} (hb : Band b t h) : (b.map (·.b)).headD 0 = h := by
  cases b with
  | nil => exact (hb.1 rfl).elim
  | cons r l => simpa using (hb.2.2.2 r (by simp)).2

/-- What the bands are, from a band above on. -/
theorem bandsR_canon : ∀ (l : List (List Rc)) (ab : List Rc) (t h : Int), Band ab t h → Seq (t + h) l →
    Canon (bandsR ab l) ∧ (∀ x y, inB (bandsR ab l) x y ↔ (∃ r ∈ ab, inRc r x y) ∨ inB l x y) ∧ (∀ c ∈ bandsR ab l, ∀ r ∈ c, t ≤ r.y) ∧ ∃ c h', (bandsR ab l).head? = some c ∧ Band c t h' ∧ cols c = cols ab := by
  intro l
  induction l with
  | nil =>
    intro ab t h hb _
    simp only [bandsR, if_neg hb.1]
    refine ⟨⟨⟨t, h, hb, by simp⟩, by simp, trivial⟩, fun x y => by simp [inB], fun c hc r hr => ?_, ab, h, rfl, hb, rfl⟩
    simp at hc; subst hc
    have := (hb.2.2.2 r hr).1; omega
  | cons st l ih =>
    intro ab t h hb hs
    obtain ⟨t', h', hst, hle, hseq⟩ := hs
    rw [bandsR]
    split
    · rename_i hg
      obtain ⟨hcols, ht⟩ := (goesOn_iff hb hst).1 hg
      rw [hst.headB]
      have hp := hst.2.2.1
      have hb2 := hb.higher h' hp
      obtain ⟨i1, i2, i3, c, k, i4, i5, i6⟩ := ih _ t (h + h') hb2 (hseq.mono (by omega))
      refine ⟨i1, fun x y => ?_, i3, c, k, i4, i5, i6.trans (cols_higher _ _)⟩
      rw [i2, inB_cons, hb2.row, hb.row, hst.row, inX_cols (cols_higher ab h') x, inX_cols hcols.symm x]
      have hp2 := hb.2.2.1
      constructor
      · rintro (h1 | h1)
        · by_cases hy : y < t + h
          · exact .inl ⟨h1.1, by omega, by omega⟩
          · exact .inr (.inl ⟨h1.1, by omega, by omega⟩)
        · exact .inr (.inr h1)
      · rintro (h1 | h1 | h1)
        · exact .inl ⟨h1.1, by omega, by omega⟩
        · exact .inl ⟨h1.1, by omega, by omega⟩
        · exact .inr h1
    · rename_i hg
      rw [if_neg hb.1]
      obtain ⟨i1, i2, i3, c, k, i4, i5, i6⟩ := ih st t' h' hst hseq
      refine ⟨⟨⟨t, h, hb, fun d hd r hr => by have := i3 d hd r hr; omega⟩, fun d hd => ?_, i1⟩, fun x y => ?_, fun d hd r hr => ?_, ab, h, rfl, hb, rfl⟩
      · have hd : (bandsR st l).head? = some d := hd
        rw [i4] at hd
        cases hd
        cases hgo : goesOnB ab c
        · rfl
        · obtain ⟨e1, e2⟩ := (goesOn_iff hb i5).1 hgo
          exact absurd ((goesOn_iff hb hst).2 ⟨e1.trans i6, e2⟩) hg
      · rw [List.cons_append, List.nil_append, inB_cons, i2, inB_cons]
      · rcases List.mem_cons.1 hd with rfl | hd
        · have := (hb.2.2.2 r hr).1; omega
        · have := i3 d hd r hr
          have := hb.2.2.1
          omega

theorem bandsOf_canon {l : List (List Rc)} {k : Int} (h : Seq k l) : Canon (bandsOf l) ∧ ∀ x y, inB (bandsOf l) x y ↔ inB l x y := by
  rw [bandsOf_R]
  cases l with
  | nil => exact ⟨trivial, fun x y => by simp [bandsR]⟩
  | cons st l =>
    obtain ⟨t, k', h1, h2, h3⟩ := h
    have e : bandsR [] (st :: l) = bandsR st l := by simp [bandsR, goesOnB]
    obtain ⟨i1, i2, _, _⟩ := bandsR_canon l st t k' h1 h3
    rw [e]
    exact ⟨i1, fun x y => by rw [i2, inB_cons]⟩

theorem pix_const {a : List Rc} {k k' : Int} {ks : List Int} (hk : ∀ q ∈ ks, k' ≤ q) (H : ∀ r ∈ a, emptyR r = false → (r.y < k ∨ r.y ∈ k :: k' :: ks) ∧ (r.y + r.b < k ∨ r.y + r.b ∈ k :: k' :: ks)) {x y : Int} (h1 : k ≤ y) (h2 : y < k') : pix a x y = pix a x k := by
  rw [Bool.eq_iff_iff, pix_iff, pix_iff]
  have key : ∀ z, z < k ∨ z ∈ k :: k' :: ks → (z ≤ k ∨ k' ≤ z) := by
    intro z hz
    simp only [List.mem_cons] at hz
    rcases hz with hz | hz | hz | hz
    · omega
    · omega
    · omega
    · have := hk z hz; omega
  constructor
  · rintro ⟨r, hr, h⟩
    obtain ⟨e, e1, e2⟩ := has_iff.1 h
    have := key _ (H r hr e).1
    have := key _ (H r hr e).2
    exact ⟨r, hr, has_iff.2 ⟨e, e1, by omega, by omega⟩⟩
  · rintro ⟨r, hr, h⟩
    obtain ⟨e, e1, e2⟩ := has_iff.1 h
    have := key _ (H r hr e).1
    have := key _ (H r hr e).2
    exact ⟨r, hr, has_iff.2 ⟨e, e1, by omega, by omega⟩⟩

theorem strips_sem (mf : Bool → Bool → Bool) (hff : mf false false = false) (a b : List Rc) : ∀ (ks : List Int) (k : Int), (k :: ks).Pairwise (· < ·) →
    (∀ r, r ∈ a ∨ r ∈ b → emptyR r = false → (r.y < k ∨ r.y ∈ k :: ks) ∧ (r.y + r.b < k ∨ r.y + r.b ∈ k :: ks)) →
    Seq k (stripsK mf a b (k :: ks)) ∧ ∀ x y, k ≤ y → (inB (stripsK mf a b (k :: ks)) x y ↔ mf (pix a x y) (pix b x y) = true) := by
  intro ks
  induction ks with
  | nil =>
    intro k _ H
    refine ⟨trivial, fun x y hy => ?_⟩
    have none : ∀ l : List Rc, (∀ r ∈ l, r ∈ a ∨ r ∈ b) → pix l x y = false := by
      intro l hl
      cases hp : pix l x y
      · rfl
      · obtain ⟨r, hr, h⟩ := pix_iff.1 hp
        obtain ⟨e, e1, e2⟩ := has_iff.1 h
        have := (H r (hl r hr) e).2
        simp at this
        omega
    rw [none a (fun r h => .inl h), none b (fun r h => .inr h), hff]
    simp [stripsK, inB]
  | cons k' ks ih =>
    intro k hp H
    obtain ⟨hp1, hp2⟩ := List.pairwise_cons.1 hp
    have hlt := hp1 k' (by simp)
    have hk : ∀ q ∈ ks, k' ≤ q := fun q hq => by have := (List.pairwise_cons.1 hp2).1 q hq; omega
    have H' : ∀ r, r ∈ a ∨ r ∈ b → emptyR r = false → (r.y < k' ∨ r.y ∈ k' :: ks) ∧ (r.y + r.b < k' ∨ r.y + r.b ∈ k' :: ks) := by
      intro r hr he
      have h1 := H r hr he
      simp only [List.mem_cons] at h1 ⊢
      constructor
      · rcases h1.1 with h | h | h
        · left; omega
        · left; omega
        · right; exact h
      · rcases h1.2 with h | h | h
        · left; omega
        · left; omega
        · right; exact h
    obtain ⟨i1, i2⟩ := ih k' hp2 H'
    obtain ⟨s1, s2, s3⟩ := strip_sem mf hff a b k k'
    rw [stripsK]
    have ca := fun x y (h1 : k ≤ y) (h2 : y < k') => pix_const (a := a) hk (fun r hr he => H r (.inl hr) he) (x := x) h1 h2
    have cb := fun x y (h1 : k ≤ y) (h2 : y < k') => pix_const (a := b) hk (fun r hr he => H r (.inr hr) he) (x := x) h1 h2
    have s4 : ∀ x, inX (stripC mf a b k k') x ↔ mf (pix a x k) (pix b x k) = true := fun x => by rw [s3, inRow_act, inRow_act]
    split
    · rename_i hnil
      rw [List.nil_append]
      refine ⟨i1.mono (by omega), fun x y hy => ?_⟩
      by_cases hy2 : y < k'
      · rw [ca x y hy hy2, cb x y hy hy2, ← s4, hnil]
        constructor
        · intro h; exact (low_none i1.low hy2 h).elim
        · rintro ⟨r, hr, _⟩; cases hr
      · exact i2 x y (by omega)
    · rename_i hne
      have hB : Band (stripC mf a b k k') k (k' - k) := ⟨hne, s1, by omega, s2⟩
      refine ⟨⟨k, k' - k, hB, by omega, i1.mono (by omega)⟩, fun x y hy => ?_⟩
      rw [List.cons_append, List.nil_append, inB_cons, hB.row]
      by_cases hy2 : y < k'
      · rw [ca x y hy hy2, cb x y hy hy2, ← s4]
        constructor
        · rintro (h | h)
          · exact h.1
          · exact (low_none i1.low hy2 h).elim
        · intro h; exact .inl ⟨h, hy, by omega⟩
      · rw [← i2 x y (by omega)]
        constructor
        · rintro (h | h)
          · omega
          · exact h
        · intro h; exact .inr h

theorem bands_sem (mf : Bool → Bool → Bool) (hff : mf false false = false) (a b : List Rc) : Canon (bandsOf (stripsL mf a b)) ∧ ∀ x y, inB (bandsOf (stripsL mf a b)) x y ↔ mf (pix a x y) (pix b x y) = true := by
  have hs := keys_sorted a b
  have hm := @mem_keysOf a b
  unfold stripsL
  cases hk : keysOf a b with
  | nil =>
    rw [hk] at hm
    refine ⟨trivial, fun x y => ?_⟩
    have none : ∀ l : List Rc, (∀ r ∈ l, r ∈ a ∨ r ∈ b) → pix l x y = false := by
      intro l hl
      cases hp : pix l x y
      · rfl
      · obtain ⟨r, hr, h⟩ := pix_iff.1 hp
        exact absurd (hm.2 ⟨r, hl r hr, (has_iff.1 h).1, .inl rfl⟩) (by simp)
    rw [none a (fun r h => .inl h), none b (fun r h => .inr h), hff]
    simp [stripsK, bandsOf, bandFold, inB]
  | cons k ks =>
    rw [hk] at hs hm
    have H : ∀ r, r ∈ a ∨ r ∈ b → emptyR r = false → (r.y < k ∨ r.y ∈ k :: ks) ∧ (r.y + r.b < k ∨ r.y + r.b ∈ k :: ks) := fun r hr he => ⟨.inr (hm.2 ⟨r, hr, he, .inl rfl⟩), .inr (hm.2 ⟨r, hr, he, .inr rfl⟩)⟩
    obtain ⟨i1, i2⟩ := strips_sem mf hff a b ks k hs H
    obtain ⟨j1, j2⟩ := bandsOf_canon i1
    refine ⟨j1, fun x y => ?_⟩
    rw [j2]
    by_cases hy : k ≤ y
    · exact i2 x y hy
    · have none : ∀ l : List Rc, (∀ r ∈ l, r ∈ a ∨ r ∈ b) → pix l x y = false := by
        intro l hl
        cases hp : pix l x y
        · rfl
        · obtain ⟨r, hr, h⟩ := pix_iff.1 hp
          obtain ⟨e, e1, e2⟩ := has_iff.1 h
          have h1 := (H r (hl r hr) e).1
          have h2 := List.pairwise_cons.1 hs
          simp only [List.mem_cons] at h1
          rcases h1 with h1 | h1 | h1
          · have := hm.2 ⟨r, hl r hr, e, .inl rfl⟩
            rcases List.mem_cons.1 this with h3 | h3
            · omega
            · have := h2.1 _ h3; omega
          · omega
          · have := h2.1 _ h1; omega
      rw [none a (fun r h => .inl h), none b (fun r h => .inr h), hff]
      constructor
      · intro h; exact (low_none i1.low (by omega) h).elim
      · intro h; cases h

theorem bands_full (mf : Bool → Bool → Bool) (hff : mf false false = false) (a b : List Rc) : ∀ c ∈ bandsOf (stripsL mf a b), ∀ r ∈ c, emptyR r = false := by
  obtain ⟨h1, h2⟩ := bands_sem mf hff a b
  intro c hc r hr
  obtain ⟨t, h, hb⟩ := h1.band c hc
  have ha := hb.2.1.pos r hr
  have hbb : 0 < r.b := by have := hb.2.2.1; have := hb.2.2.2 r hr; omega
  have key : ∀ x y, inRc r x y → ∃ s, emptyR s = false ∧ (s.x ≤ x ∧ x < s.x + s.a) ∧ (s.y ≤ y ∧ y < s.y + s.b) := by
    intro x y hi
    have h3 := (h2 x y).1 ⟨c, hc, r, hr, hi⟩
    cases hpa : pix a x y
    · cases hpb : pix b x y
      · rw [hpa, hpb, hff] at h3; cases h3
      · obtain ⟨s, hs, h4⟩ := pix_iff.1 hpb
        exact ⟨s, has_iff.1 h4⟩
    · obtain ⟨s, hs, h4⟩ := pix_iff.1 hpa
      exact ⟨s, has_iff.1 h4⟩
  obtain ⟨s, s0, s1, s2⟩ := key r.x r.y ⟨⟨by omega, by omega⟩, by omega, by omega⟩
  obtain ⟨q, q0, q1, q2⟩ := key (r.x + r.a - 1) (r.y + r.b - 1) ⟨⟨by omega, by omega⟩, by omega, by omega⟩
  have := emptyR_false.1 s0
  have := emptyR_false.1 q0
  exact emptyR_false.2 (by omega)

theorem pix_flatten {bs : List (List Rc)} (h : ∀ c ∈ bs, ∀ r ∈ c, emptyR r = false) (x y : Int) : pix bs.flatten x y = true ↔ inB bs x y := by
  rw [pix_iff]
  constructor
  · rintro ⟨r, hr, hh⟩
    obtain ⟨c, hc, hr⟩ := List.mem_flatten.1 hr
    exact ⟨c, hc, r, hr, (has_iff.1 hh).2⟩
  · rintro ⟨c, hc, r, hr, hh⟩
    exact ⟨r, List.mem_flatten.2 ⟨c, hc, hr⟩, has_iff.2 ⟨h c hc r hr, hh⟩⟩

/-- The pixels of the list in form. -/
theorem pix_form (mf : Bool → Bool → Bool) (hff : mf false false = false) (a b : List Rc) (x y : Int) : pix (formL mf a b) x y = mf (pix a x y) (pix b x y) := by
  rw [Bool.eq_iff_iff, formL, pix_flatten (bands_full mf hff a b), (bands_sem mf hff a b).2]

/-- A set of pixels has one list in form. -/
theorem form_unique {mf mf' : Bool → Bool → Bool} (hff : mf false false = false) (hff' : mf' false false = false) {a b a' b' : List Rc} (h : ∀ x y, mf (pix a x y) (pix b x y) = mf' (pix a' x y) (pix b' x y)) : formL mf a b = formL mf' a' b' := by
  have h1 := bands_sem mf hff a b
  have h2 := bands_sem mf' hff' a' b'
  rw [formL, formL, canon_unique h1.1 h2.1 (fun x y => by rw [h1.2, h2.2, h])]

theorem form_full (mf : Bool → Bool → Bool) (hff : mf false false = false) (a b : List Rc) : ∀ r ∈ formL mf a b, emptyR r = false := by
  intro r hr
  obtain ⟨c, hc, hr⟩ := List.mem_flatten.1 hr
  exact bands_full mf hff a b c hc r hr

/-- Bands in form are those of their own pixels. -/
theorem form_canon {mf : Bool → Bool → Bool} (hff : mf false false = false) {a b : List Rc} {bs : List (List Rc)} (hc : Canon bs) (hf : ∀ c ∈ bs, ∀ r ∈ c, emptyR r = false) (h : ∀ x y, mf (pix a x y) (pix b x y) = pix bs.flatten x y) : bandsOf (stripsL mf a b) = bs := by
  have h1 := bands_sem mf hff a b
  exact canon_unique h1.1 hc (fun x y => by rw [h1.2, h, pix_flatten hf])

theorem form_none {mf : Bool → Bool → Bool} (hff : mf false false = false) {a b : List Rc} (h : ∀ x y, mf (pix a x y) (pix b x y) = false) : formL mf a b = [] := by
  have := form_canon (a := a) (b := b) hff (bs := []) trivial (by simp) (fun x y => by rw [h]; rfl)
  simp [formL, this]

theorem bands_none {mf : Bool → Bool → Bool} (hff : mf false false = false) {a b : List Rc} : bandsOf (stripsL mf a b) = [] ↔ ∀ x y, mf (pix a x y) (pix b x y) = false := by
  have h1 := bands_sem mf hff a b
  constructor
  · intro h x y
    have h2 := h1.2 x y
    rw [h] at h2
    cases hh : mf (pix a x y) (pix b x y)
    · rfl
    · exact (inB_nil (h2.2 hh)).elim
  · intro h
    exact form_canon hff (bs := []) trivial (by simp) (fun x y => by rw [h]; rfl)

end Go.Proofs.YtajoipmchgabfaaGreat
