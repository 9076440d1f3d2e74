/- Several texts in one, each with its own head. -/
import Derived.Test.YtajoipmchgabfaaGreatT11
/- Plain facts on rows of intervals: a set of numbers has one row; what cut makes of sorted edges. -/
namespace Go.Proofs.YtajoipmchgabfaaGreat

/-- Rectangles of one row, from the left, apart. -/
def Chain : List Rc → Prop
  | [] => True
  | r :: l => 0 < r.a ∧ (∀ s ∈ l, r.x + r.a < s.x) ∧ Chain l

def inX (l : List Rc) (x : Int) : Prop := ∃ r ∈ l, r.x ≤ x ∧ x < r.x + r.a

def cols (l : List Rc) : List (Int × Int) := l.map fun r => (r.x, r.a)

theorem inX_cons {r : Rc} {l : List Rc} {x : Int} : inX (r :: l) x ↔ (r.x ≤ x ∧ x < r.x + r.a) ∨ inX l x := by
  simp [inX]

theorem Chain.pos {l : List Rc} (h : Chain l) : ∀ r ∈ l, 0 < r.a := by
  induction l with
  | nil => simp
  | cons r l ih =>
    intro s hs
    rcases List.mem_cons.1 hs with rfl | hs
    · exact h.1
    · exact ih h.2.2 s hs

/-- A set of numbers has one row of intervals. -/
theorem cols_unique : ∀ {l m : List Rc}, Chain l → Chain m → (∀ x, inX l x ↔ inX m x) → cols l = cols m
  | [], [], _, _, _ => rfl
  | [], s :: m, _, hm, h => by
    have := (h s.x).2 ⟨s, by simp, by omega, by have := hm.1; omega⟩
    simp [inX] at this
  | r :: l, [], hl, _, h => by
    have := (h r.x).1 ⟨r, by simp, by omega, by have := hl.1; omega⟩
    simp [inX] at this
  | r :: l, s :: m, hl, hm, h => by
    have lo : ∀ {a : Rc} {t : List Rc} {x : Int}, Chain (a :: t) → inX (a :: t) x → a.x ≤ x := by
      rintro a t x hc ⟨q, hq, h1, h2⟩
      rcases List.mem_cons.1 hq with rfl | hq
      · exact h1
      · have := hc.2.1 q hq; have := hc.1; omega
    have e1 : r.x = s.x := by
      have a1 := lo hm ((h r.x).1 ⟨r, by simp, by omega, by have := hl.1; omega⟩)
      have a2 := lo hl ((h s.x).2 ⟨s, by simp, by omega, by have := hm.1; omega⟩)
      omega
    have gap : ∀ {a : Rc} {t : List Rc}, Chain (a :: t) → ¬ inX (a :: t) (a.x + a.a) := by
      rintro a t hc ⟨q, hq, h1, h2⟩
      rcases List.mem_cons.1 hq with rfl | hq
      · omega
      · have := hc.2.1 q hq; omega
    have e2 : r.a = s.a := by
      rcases Int.lt_trichotomy r.a s.a with hh | hh | hh
      · exfalso
        refine gap hl ((h _).2 ⟨s, by simp, by have := hl.1; omega, by omega⟩)
      · exact hh
      · exfalso
        refine gap hm ((h _).1 ⟨r, by simp, by have := hm.1; omega, by omega⟩)
    have tail : ∀ x, inX l x ↔ inX m x := by
      intro x
      have h0 := h x
      rw [inX_cons, inX_cons] at h0
      constructor
      · intro hx
        rcases h0.1 (.inr hx) with hh | hh
        · obtain ⟨q, hq, h1, h2⟩ := hx
          have := hl.2.1 q hq
          omega
        · exact hh
      · intro hx
        rcases h0.2 (.inr hx) with hh | hh
        · obtain ⟨q, hq, h1, h2⟩ := hx
          have := hm.2.1 q hq
          omega
        · exact hh
    show (r.x, r.a) :: cols l = (s.x, s.a) :: cols m
    rw [e1, e2, cols_unique hl.2.2 hm.2.2 tail]

/-- The depth that edges up to x make. -/
def upto (li : Int) (gs : List (Int × List Ed)) (x : Int) : Int := turned li ((gs.filter (fun g => decide (g.1 ≤ x))).flatMap (·.2))

theorem upto_cons_le {li : Int} {g : Int × List Ed} {gs : List (Int × List Ed)} {x : Int} (h : g.1 ≤ x) : upto li (g :: gs) x = turned li g.2 + upto li gs x := by
  simp [upto, h, turned_append]
theorem upto_none {li : Int} {gs : List (Int × List Ed)} {x : Int} (h : ∀ g ∈ gs, x < g.1) : upto li gs x = 0 := by
  have : gs.filter (fun g => decide (g.1 ≤ x)) = [] := by
    rw [List.filter_eq_nil_iff]
    intro g hg
    have := h g hg
    simp
    omega
  simp [upto, this, turned]

def hasAt (mf : Bool → Bool → Bool) (d0 d1 : Int) (gs : List (Int × List Ed)) (x : Int) : Bool := mf (decide (0 < d0 + upto 0 gs x)) (decide (0 < d1 + upto 1 gs x))

theorem cut_sem (mf : Bool → Bool → Bool) (top bot : Int) : ∀ (gs : List (Int × List Ed)) (s : CutSt) (lo : Int), (gs.map (·.1)).Pairwise (· < ·) → (∀ g ∈ gs, lo < g.1) → s.op = mf (decide (0 < s.d0)) (decide (0 < s.d1)) → (s.op = true → s.from' ≤ lo) →
    mf (decide (0 < s.d0 + turned 0 (gs.flatMap (·.2)))) (decide (0 < s.d1 + turned 1 (gs.flatMap (·.2)))) = false →
    ∃ tail, (gs.foldl (cutStep mf top bot) s).out = s.out ++ tail ∧ Chain tail ∧ (∀ r ∈ tail, r.y = top ∧ r.b = bot - top) ∧ (∀ r ∈ tail, (s.op = true ∧ s.from' ≤ r.x) ∨ (s.op = false ∧ lo < r.x)) ∧
      (∀ x, inX tail x ↔ (x < lo ∧ s.op = true ∧ s.from' ≤ x) ∨ (lo ≤ x ∧ hasAt mf s.d0 s.d1 gs x = true)) := by
  intro gs
  induction gs with
  | nil =>
    intro s lo _ _ hop _ hfin
    have h0 : s.op = false := by rw [hop]; simpa [turned] using hfin
    refine ⟨[], by simp, trivial, by simp, by simp, fun x => ?_⟩
    simp [inX, h0, hasAt, upto, turned]
    intro _
    rw [← hop]; exact h0
  | cons g gs ih =>
    intro s lo hpw hlo hop hfr hfin
    obtain ⟨k, g⟩ := g
    have hk : lo < k := hlo (k, g) (by simp)
    have hpw' := List.pairwise_cons.1 (show ((k :: gs.map (·.1)).Pairwise (· < ·)) from hpw)
    have hgt : ∀ q ∈ gs, k < q.1 := fun q hq => hpw'.1 q.1 (List.mem_map.2 ⟨q, hq, rfl⟩)
    have hHlo : ∀ x, lo ≤ x → x < k → hasAt mf s.d0 s.d1 ((k, g) :: gs) x = s.op := by
      intro x h1 h2
      have hall : ∀ q ∈ ((k, g) :: gs), x < q.1 := by
        intro q hq
        rcases List.mem_cons.1 hq with rfl | hq
        · exact h2
        · have := hgt q hq; omega
      rw [hasAt, upto_none hall, upto_none hall, hop]
      simp
    have hHhi : ∀ x, k ≤ x → hasAt mf s.d0 s.d1 ((k, g) :: gs) x = hasAt mf (s.d0 + turned 0 g) (s.d1 + turned 1 g) gs x := by
      intro x h1
      rw [hasAt, hasAt, upto_cons_le (g := (k, g)) h1, upto_cons_le (g := (k, g)) h1]
      simp only [Int.add_assoc]
    have hfin' : mf (decide (0 < s.d0 + turned 0 g + turned 0 (gs.flatMap (·.2)))) (decide (0 < s.d1 + turned 1 g + turned 1 (gs.flatMap (·.2)))) = false := by
      simpa [turned_append, Int.add_assoc] using hfin
    obtain ⟨has, hhas⟩ : ∃ has, mf (decide (0 < s.d0 + turned 0 g)) (decide (0 < s.d1 + turned 1 g)) = has := ⟨_, rfl⟩
    have hstep : cutStep mf top bot s (k, g) = { d0 := s.d0 + turned 0 g, d1 := s.d1 + turned 1 g, from' := if has && !s.op then k else s.from', op := has, out := if !has && s.op then s.out ++ [⟨s.from', top, k - s.from', bot - top⟩] else s.out } := by
      simp only [cutStep, hhas]
    rw [List.foldl_cons, hstep]
    cases hs : s.op <;> cases has
    · -- shut, stays shut
      obtain ⟨tail, e1, e2, e3, e4, e5⟩ := ih { d0 := s.d0 + turned 0 g, d1 := s.d1 + turned 1 g, from' := s.from', op := false, out := s.out } k hpw'.2 hgt hhas.symm (by simp) hfin'
      refine ⟨tail, by simpa [hs] using e1, e2, e3, fun r hr => ?_, fun x => ?_⟩
      · rcases e4 r hr with h | h
        · simp at h
        · exact .inr ⟨rfl, by have := h.2; omega⟩
      · rw [e5 x]
        rcases Int.lt_or_le x k with h1 | h1
        · rcases Int.lt_or_le x lo with h2 | h2
          · simp; omega
          · have := hHlo x h2 h1
            rw [hs] at this
            simp [this]; omega
        · have h2 : lo ≤ x := by omega
          have h3 : ¬ x < lo := by omega
          have h4 : ¬ x < k := by omega
          simp [hHhi x h1, h1, h2, h3, h4]
    · -- shut, opens
      obtain ⟨tail, e1, e2, e3, e4, e5⟩ := ih { d0 := s.d0 + turned 0 g, d1 := s.d1 + turned 1 g, from' := k, op := true, out := s.out } k hpw'.2 hgt hhas.symm (by simp) hfin'
      refine ⟨tail, by simpa [hs] using e1, e2, e3, fun r hr => ?_, fun x => ?_⟩
      · rcases e4 r hr with h | h
        · exact .inr ⟨rfl, by have := h.2; simp at this; omega⟩
        · simp at h
      · rw [e5 x]
        rcases Int.lt_or_le x k with h1 | h1
        · rcases Int.lt_or_le x lo with h2 | h2
          · simp; omega
          · have := hHlo x h2 h1
            rw [hs] at this
            simp [this]; omega
        · have h2 : lo ≤ x := by omega
          have h3 : ¬ x < lo := by omega
          have h4 : ¬ x < k := by omega
          simp [hHhi x h1, h1, h2, h3, h4]
    · -- open, shuts
      obtain ⟨tail, e1, e2, e3, e4, e5⟩ := ih { d0 := s.d0 + turned 0 g, d1 := s.d1 + turned 1 g, from' := s.from', op := false, out := s.out ++ [⟨s.from', top, k - s.from', bot - top⟩] } k hpw'.2 hgt hhas.symm (by simp) hfin'
      have hf := hfr hs
      refine ⟨⟨s.from', top, k - s.from', bot - top⟩ :: tail, by simpa [hs] using e1, ⟨by simp; omega, fun q hq => ?_, e2⟩, fun r hr => ?_, fun r hr => ?_, fun x => ?_⟩
      · rcases e4 q hq with h | h
        · simp at h
        · have := h.2; simp; omega
      · rcases List.mem_cons.1 hr with rfl | hr
        · exact ⟨rfl, rfl⟩
        · exact e3 r hr
      · refine .inl ⟨rfl, ?_⟩
        rcases List.mem_cons.1 hr with rfl | hr
        · simp
        · rcases e4 r hr with h | h
          · simp at h
          · have := h.2; omega
      · rw [inX_cons, e5 x]
        rcases Int.lt_or_le x k with h1 | h1
        · rcases Int.lt_or_le x lo with h2 | h2
          · simp; omega
          · have := hHlo x h2 h1
            rw [hs] at this
            simp [this]; omega
        · have h2 : lo ≤ x := by omega
          have h3 : ¬ x < lo := by omega
          have h4 : ¬ x < k := by omega
          have h5 : ¬ (s.from' ≤ x ∧ x < s.from' + (k - s.from')) := by omega
          simp only [h5, false_or]
          simp [hHhi x h1, h1, h2, h3, h4]
    · -- open, stays open
      obtain ⟨tail, e1, e2, e3, e4, e5⟩ := ih { d0 := s.d0 + turned 0 g, d1 := s.d1 + turned 1 g, from' := s.from', op := true, out := s.out } k hpw'.2 hgt hhas.symm (by simp; have := hfr hs; omega) hfin'
      have hf := hfr hs
      refine ⟨tail, by simpa [hs] using e1, e2, e3, fun r hr => ?_, fun x => ?_⟩
      · rcases e4 r hr with h | h
        · exact .inl ⟨rfl, h.2⟩
        · simp at h
      · rw [e5 x]
        rcases Int.lt_or_le x k with h1 | h1
        · rcases Int.lt_or_le x lo with h2 | h2
          · simp; omega
          · have := hHlo x h2 h1
            rw [hs] at this
            simp [this]; omega
        · have h2 : lo ≤ x := by omega
          have h3 : ¬ x < lo := by omega
          have h4 : ¬ x < k := by omega
          simp [hHhi x h1, h1, h2, h3, h4]

end Go.Proofs.YtajoipmchgabfaaGreat

/- Plain facts: sorted edges in runs; which edges are active in a row; what cut makes of them. -/
namespace Go.Proofs.YtajoipmchgabfaaGreat

def SortedP (l : List Ed) : Prop := l.Pairwise (fun a b => a.pl ≤ b.pl)

theorem SortedPl.pw {l : List Ed} (h : SortedPl l) : SortedP l := by
  rw [SortedP, List.pairwise_iff_getElem]
  intro i j hi hj hij
  exact h i j hi hj hij

theorem grp_keyed {α : Type} {key : α → Int} {l : List α} {c : Int} {g : List α} (h : (c, g) ∈ grp key l) : ∀ x ∈ g, key x = c := by
  induction l generalizing c g with
  | nil => simp [grp] at h
  | cons x l ih =>
    simp only [grp] at h
    split at h
    · simp at h; intro z hz; rw [h.2] at hz; simp at hz; rw [hz, h.1]
    · rename_i y g' rest hh
      split at h
      · rename_i hy
        simp at h
        rcases h with ⟨h1, h2⟩ | h
        · intro z hz
          rw [h2] at hz
          rcases List.mem_cons.1 hz with rfl | hz
          · rw [h1, hy]
          · rw [h1]; exact ih (by rw [hh]; simp) z hz
        · exact ih (by rw [hh]; simp [h])
      · simp at h
        rcases h with ⟨h1, h2⟩ | ⟨h1, h2⟩ | h
        · intro z hz; rw [h2] at hz; simp at hz; rw [hz, h1]
        · exact ih (by rw [hh, h1, h2]; simp)
        · exact ih (by rw [hh]; simp [h])

theorem grp_keys {l : List Ed} (h : SortedP l) : ((grp Ed.pl l).map (·.1)).Pairwise (· < ·) := by
  induction l with
  | nil => simp [grp]
  | cons x l ih =>
    have hc := List.pairwise_cons.1 h
    have ih := ih hc.2
    simp only [grp]
    split
    · simp
    · rename_i y g rest hh
      rw [hh] at ih
      split
      · simpa using ih
      · rename_i hne
        have hy0 : x.pl < y := by
          obtain ⟨z, hz, hz2⟩ := grp_ne (c := y) (g := g) (l := l) (key := Ed.pl) (by rw [hh]; simp)
          have := hc.1 z (grp_mem (c := y) (g := g) (key := Ed.pl) (by rw [hh]; simp) hz)
          omega
        simp only [List.map_cons, List.pairwise_cons] at ih ⊢
        refine ⟨fun q hq => ?_, ih⟩
        rcases List.mem_cons.1 hq with hq | hq
        · omega
        · have h1 := ih.1 q hq
          omega

theorem grp_filter (l : List Ed) (x : Int) : ((grp Ed.pl l).filter (fun g => decide (g.1 ≤ x))).flatMap (·.2) = l.filter (fun e => decide (e.pl ≤ x)) := by
  have key : ∀ gs : List (Int × List Ed), (∀ q ∈ gs, ∀ e ∈ q.2, e.pl = q.1) → (gs.filter (fun g => decide (g.1 ≤ x))).flatMap (·.2) = (gs.flatMap (·.2)).filter (fun e => decide (e.pl ≤ x)) := by
    intro gs
    induction gs with
    | nil => simp
    | cons q gs ih =>
      intro hq
      have ih := ih (fun q' h' => hq q' (by simp [h']))
      rw [List.flatMap_cons, List.filter_append, ← ih]
      by_cases h : q.1 ≤ x
      · rw [List.filter_cons_of_pos (by simpa using h), List.flatMap_cons]
        congr 1
        symm
        refine List.filter_eq_self.2 (fun e he => ?_)
        rw [hq q (by simp) e he]
        simpa using h
      · rw [List.filter_cons_of_neg (by simpa using h)]
        have : q.2.filter (fun e => decide (e.pl ≤ x)) = [] := by
          rw [List.filter_eq_nil_iff]
          intro e he
          rw [hq q (by simp) e he]
          simpa using h
        rw [this, List.nil_append]
  have := key (grp Ed.pl l) (fun q hq e he => grp_keyed (c := q.1) (g := q.2) hq e he)
  rw [this, grp_flat]

theorem turned_perm (li : Int) {l m : List Ed} (h : l.Perm m) : turned li l = turned li m := by
  induction h with
  | nil => rfl
  | cons x _ ih => simp only [turned, ih]
  | swap x y l => simp only [turned]; omega
  | trans _ _ h1 h2 => rw [h1, h2]

/-- The left and right edges of rectangles. -/
def acrossOf (li : Int) (rs : List Rc) : List Ed := rs.flatMap fun r => [⟨r.x, li, 1, r⟩, ⟨r.x + r.a, li, -1, r⟩]

def inRow (rs : List Rc) (x : Int) : Bool := rs.any fun r => decide (r.x ≤ x ∧ x < r.x + r.a)

def cnt (rs : List Rc) (x : Int) : Int := (rs.filter (fun r => decide (r.x ≤ x ∧ x < r.x + r.a))).length

theorem turned_across_same (li : Int) (rs : List Rc) (x : Int) (h : ∀ r ∈ rs, 0 < r.a) : turned li ((acrossOf li rs).filter (fun e => decide (e.pl ≤ x))) = cnt rs x := by
  induction rs with
  | nil => rfl
  | cons r rs ih =>
    have ih := ih (fun q hq => h q (by simp [hq]))
    have hr := h r (by simp)
    simp only [acrossOf, List.flatMap_cons, List.filter_append, turned_append, cnt] at ih ⊢
    rw [ih]
    by_cases h1 : r.x ≤ x
    · by_cases h2 : x < r.x + r.a
      · simp [h1, h2, turned, show ¬ r.x + r.a ≤ x by omega]; omega
      · simp [h1, h2, turned, show r.x + r.a ≤ x by omega]
    · simp [h1, turned, show ¬ r.x + r.a ≤ x by omega]

theorem turned_across_other (li lj : Int) (hne : lj ≠ li) (rs : List Rc) (x : Int) : turned li ((acrossOf lj rs).filter (fun e => decide (e.pl ≤ x))) = 0 := by
  have key : ∀ l : List Ed, (∀ e ∈ l, e.li = lj) → turned li l = 0 := by
    intro l
    induction l with
    | nil => intro _; rfl
    | cons e l ih =>
      intro h
      simp only [turned]
      rw [ih (fun q hq => h q (by simp [hq])), h e (by simp), if_neg hne]
      rfl
  refine key _ (fun e he => ?_)
  have he := (List.mem_filter.1 he).1
  obtain ⟨r, _, hr⟩ := List.mem_flatMap.1 he
  simp at hr
  rcases hr with rfl | rfl <;> rfl

theorem cnt_pos (rs : List Rc) (x : Int) : decide (0 < cnt rs x) = inRow rs x := by
  rw [Bool.eq_iff_iff]
  simp only [decide_eq_true_eq, inRow, List.any_eq_true, cnt]
  constructor
  · intro h
    have h' : (0 : Int) < ((rs.filter (fun r => decide (r.x ≤ x ∧ x < r.x + r.a))).length : Nat) := of_decide_eq_true h
    have : 0 < (rs.filter (fun r => decide (r.x ≤ x ∧ x < r.x + r.a))).length := Int.natCast_pos.1 h'
    obtain ⟨r, hr⟩ := List.exists_mem_of_length_pos this
    exact ⟨r, (List.mem_filter.1 hr).1, by simpa using (List.mem_filter.1 hr).2⟩
  · rintro ⟨r, hr, h⟩
    have : r ∈ rs.filter (fun r => decide (r.x ≤ x ∧ x < r.x + r.a)) := List.mem_filter.2 ⟨hr, by simpa using h⟩
    exact decide_eq_true (Int.natCast_pos.2 (List.length_pos_of_mem this))

theorem low_bound (gs : List (Int × List Ed)) (x : Int) : ∃ lo : Int, lo ≤ x ∧ ∀ g ∈ gs, lo < g.1 := by
  induction gs with
  | nil => exact ⟨x, by omega, by simp⟩
  | cons g gs ih =>
    obtain ⟨lo, h1, h2⟩ := ih
    refine ⟨min lo (g.1 - 1), by omega, fun q hq => ?_⟩
    rcases List.mem_cons.1 hq with rfl | hq
    · omega
    · have := h2 q hq; omega

theorem turned_all (li : Int) (rs : List Rc) (lj : Int) : turned li (acrossOf lj rs) = 0 := by
  induction rs with
  | nil => rfl
  | cons r rs ih =>
    simp only [acrossOf, List.flatMap_cons, turned_append] at ih ⊢
    rw [ih]
    simp only [turned]
    split <;> simp

/-- What cut makes of the sorted edges of rectangles of two lists. -/
theorem cut_out_sem (mf : Bool → Bool → Bool) (hff : mf false false = false) (top bot : Int) (A B : List Rc) (hA : ∀ r ∈ A, 0 < r.a) (hB : ∀ r ∈ B, 0 < r.a) (l : List Ed) (hs : SortedP l) (hp : l.Perm (acrossOf 0 A ++ acrossOf 1 B)) :
    Chain (cutRun mf top bot (grp Ed.pl l)).out ∧ (∀ r ∈ (cutRun mf top bot (grp Ed.pl l)).out, r.y = top ∧ r.b = bot - top) ∧ ∀ x, inX (cutRun mf top bot (grp Ed.pl l)).out x ↔ mf (inRow A x) (inRow B x) = true := by
  have hfin : mf (decide (0 < (0 : Int) + turned 0 ((grp Ed.pl l).flatMap (·.2)))) (decide (0 < (0 : Int) + turned 1 ((grp Ed.pl l).flatMap (·.2)))) = false := by
    rw [grp_flat, turned_perm 0 hp, turned_perm 1 hp, turned_append, turned_append]
    simp [turned_all, hff]
  have main := fun lo (hlo : ∀ g ∈ grp Ed.pl l, lo < g.1) => cut_sem mf top bot (grp Ed.pl l) ⟨0, 0, 0, false, []⟩ lo (grp_keys hs) hlo (by simp [hff]) (by simp) hfin
  have hup : ∀ x, upto 0 (grp Ed.pl l) x = cnt A x ∧ upto 1 (grp Ed.pl l) x = cnt B x := by
    intro x
    have h1 := hp.filter (fun e => decide (e.pl ≤ x))
    rw [upto, upto, grp_filter, turned_perm 0 h1, turned_perm 1 h1, List.filter_append, turned_append, turned_append, turned_across_same 0 A x hA, turned_across_same 1 B x hB, turned_across_other 0 1 (by omega), turned_across_other 1 0 (by omega)]
    simp
  obtain ⟨lo0, _, hlo0⟩ := low_bound (grp Ed.pl l) 0
  obtain ⟨tail, e1, e2, e3, _, _⟩ := main lo0 hlo0
  have e1' : (cutRun mf top bot (grp Ed.pl l)).out = tail := by simpa [cutRun] using e1
  refine ⟨by rw [e1']; exact e2, by rw [e1']; exact e3, fun x => ?_⟩
  obtain ⟨lo, hx, hlo⟩ := low_bound (grp Ed.pl l) x
  obtain ⟨tail2, f1, _, _, _, f5⟩ := main lo hlo
  have f1' : (cutRun mf top bot (grp Ed.pl l)).out = tail2 := by simpa [cutRun] using f1
  rw [f1', f5 x]
  simp only [hasAt, (hup x).1, (hup x).2, Int.zero_add, cnt_pos]
  simp [hx]

theorem mergeE_perm (a b : List Ed) : (mergeE a b).Perm (a ++ b) := by
  fun_induction mergeE a b with
  | case1 => simp
  | case2 => simp
  | case3 x a y b h ih => simpa using ih
  | case4 x a y b h ih =>
    have h1 : (y :: mergeE (x :: a) b).Perm (y :: (x :: a ++ b)) := List.Perm.cons y ih
    refine h1.trans ?_
    have h2 : (y :: (x :: a ++ b)).Perm ((x :: a) ++ y :: b) := (List.perm_middle).symm
    exact h2

theorem mergeE_sorted (a b : List Ed) (ha : SortedP a) (hb : SortedP b) : SortedP (mergeE a b) := by
  unfold SortedP at *
  fun_induction mergeE a b with
  | case1 => exact hb
  | case2 => exact ha
  | case3 x a y b h ih =>
    have h1 := List.pairwise_cons.1 ha
    have h2 := List.pairwise_cons.1 hb
    refine List.pairwise_cons.2 ⟨fun z hz => ?_, ih h1.2 hb⟩
    rcases List.mem_append.1 ((mergeE_perm a (y :: b)).mem_iff.1 hz) with hz | hz
    · exact h1.1 z hz
    · rcases List.mem_cons.1 hz with rfl | hz
      · exact h
      · have := h2.1 z hz; omega
  | case4 x a y b h ih =>
    have h1 := List.pairwise_cons.1 ha
    have h2 := List.pairwise_cons.1 hb
    refine List.pairwise_cons.2 ⟨fun z hz => ?_, ih ha h2.2⟩
    rcases List.mem_append.1 ((mergeE_perm (x :: a) b).mem_iff.1 hz) with hz | hz
    · rcases List.mem_cons.1 hz with rfl | hz
      · omega
      · have := h1.1 z hz; omega
    · exact h2.1 z hz

end Go.Proofs.YtajoipmchgabfaaGreat
