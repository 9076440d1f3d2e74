/- Plain facts on rows of intervals: a set of numbers has one row; what cut makes of sorted edges. -/
import Derived.Test.YtjigdgfanpeibaaTC13
namespace Go.Proofs.Ytjigdgfanpeibaa

/-- Rectangles of one row, from the left, apart. -/
def Chain : List Rc → Prop
  | [] => True
  | r :: l => 0 < r.a ∧ (∀ s ∈ l, r.x + r.a < s.x) ∧ Chain l

def inX (l : List Rc) (x : Int) : Prop := ∃ r ∈ l, r.x ≤ x ∧ x < r.x + r.a

def cols (l : List Rc) : List (Int × Int) := l.map fun r => (r.x, r.a)

theorem inX_cons {r : Rc} {l : List Rc} {x : Int} : inX (r :: l) x ↔ (r.x ≤ x ∧ x < r.x + r.a) ∨ inX l x := by
  simp [inX]

theorem Chain.pos {l : List Rc} (h : Chain l) : ∀ r ∈ l, 0 < r.a := by
  induction l with
  | nil => simp
  | cons r l ih =>
    intro s hs
    rcases List.mem_cons.1 hs with rfl | hs
    · exact h.1
    · exact ih h.2.2 s hs

/-- A set of numbers has one row of intervals. -/
theorem cols_unique : ∀ {l m : List Rc}, Chain l → Chain m → (∀ x, inX l x ↔ inX m x) → cols l = cols m
  | [], [], _, _, _ => rfl
  | [], s :: m, _, hm, h => by
    have := (h s.x).2 ⟨s, by simp, by omega, by have := hm.1; omega⟩
    simp [inX] at this
  | r :: l, [], hl, _, h => by
    have := (h r.x).1 ⟨r, by simp, by omega, by have := hl.1; omega⟩
    simp [inX] at this
  | r :: l, s :: m, hl, hm, h => by
    have lo : ∀ {a : Rc} {t : List Rc} {x : Int}, Chain (a :: t) → inX (a :: t) x → a.x ≤ x := by
      rintro a t x hc ⟨q, hq, h1, h2⟩
      rcases List.mem_cons.1 hq with rfl | hq
      · exact h1
      · have := hc.2.1 q hq; have := hc.1; omega
    have e1 : r.x = s.x := by
      have a1 := lo hm ((h r.x).1 ⟨r, by simp, by omega, by have := hl.1; omega⟩)
      have a2 := lo hl ((h s.x).2 ⟨s, by simp, by omega, by have := hm.1; omega⟩)
      omega
    have gap : ∀ {a : Rc} {t : List Rc}, Chain (a :: t) → ¬ inX (a :: t) (a.x + a.a) := by
      rintro a t hc ⟨q, hq, h1, h2⟩
      rcases List.mem_cons.1 hq with rfl | hq
      · omega
      · have := hc.2.1 q hq; omega
    have e2 : r.a = s.a := by
      rcases Int.lt_trichotomy r.a s.a with hh | hh | hh
      · exfalso
        refine gap hl ((h _).2 ⟨s, by simp, by have := hl.1; omega, by omega⟩)
      · exact hh
      · exfalso
        refine gap hm ((h _).1 ⟨r, by simp, by have := hm.1; omega, by omega⟩)
    have tail : ∀ x, inX l x ↔ inX m x := by
      intro x
      have h0 := h x
      rw [inX_cons, inX_cons] at h0
      constructor
      · intro hx
        rcases h0.1 (.inr hx) with hh | hh
        · obtain ⟨q, hq, h1, h2⟩ := hx
          have := hl.2.1 q hq
          omega
        · exact hh
      · intro hx
        rcases h0.2 (.inr hx) with hh | hh
        · obtain ⟨q, hq, h1, h2⟩ := hx
          have := hm.2.1 q hq
          omega
        · exact hh
    show (r.x, r.a) :: cols l = (s.x, s.a) :: cols m
    rw [e1, e2, cols_unique hl.2.2 hm.2.2 tail]

/-- The depth that edges up to x make. -/
def upto (li : Int) (gs : List (Int × List Ed)) (x : Int) : Int := turned li ((gs.filter (fun g => decide (g.1 ≤ x))).flatMap (·.2))

theorem upto_cons_le {li : Int} {g : Int × List Ed} {gs : List (Int × List Ed)} {x : Int} (h : g.1 ≤ x) : upto li (g :: gs) x = turned li g.2 + upto li gs x := by
  simp [upto, h, turned_append]
theorem upto_none {li : Int} {gs : List (Int × List Ed)} {x : Int} (h : ∀ g ∈ gs, x < g.1) : upto li gs x = 0 := by
  have : gs.filter (fun g => decide (g.1 ≤ x)) = [] := by
    rw [List.filter_eq_nil_iff]
    intro g hg
    have := h g hg
    simp
    omega
  simp [upto, this, turned]

def hasAt (mf : Bool → Bool → Bool) (d0 d1 : Int) (gs : List (Int × List Ed)) (x : Int) : Bool := mf (decide (0 < d0 + upto 0 gs x)) (decide (0 < d1 + upto 1 gs x))

theorem cut_sem (mf : Bool → Bool → Bool) (top bot : Int) : ∀ (gs : List (Int × List Ed)) (s : CutSt) (lo : Int), (gs.map (·.1)).Pairwise (· < ·) → (∀ g ∈ gs, lo < g.1) → s.op = mf (decide (0 < s.d0)) (decide (0 < s.d1)) → (s.op = true → s.from' ≤ lo) →
    mf (decide (0 < s.d0 + turned 0 (gs.flatMap (·.2)))) (decide (0 < s.d1 + turned 1 (gs.flatMap (·.2)))) = false →
    ∃ tail, (gs.foldl (cutStep mf top bot) s).out = s.out ++ tail ∧ Chain tail ∧ (∀ r ∈ tail, r.y = top ∧ r.b = bot - top) ∧ (∀ r ∈ tail, (s.op = true ∧ s.from' ≤ r.x) ∨ (s.op = false ∧ lo < r.x)) ∧
      (∀ x, inX tail x ↔ (x < lo ∧ s.op = true ∧ s.from' ≤ x) ∨ (lo ≤ x ∧ hasAt mf s.d0 s.d1 gs x = true)) := by
  intro gs
  induction gs with
  | nil =>
    intro s lo _ _ hop _ hfin
    have h0 : s.op = false := by rw [hop]; simpa [turned] using hfin
    refine ⟨[], by simp, trivial, by simp, by simp, fun x => ?_⟩
    simp [inX, h0, hasAt, upto, turned]
    intro _
    rw [← hop]; exact h0
  | cons g gs ih =>
    intro s lo hpw hlo hop hfr hfin
    obtain ⟨k, g⟩ := g
    have hk : lo < k := hlo (k, g) (by simp)
    have hpw' := List.pairwise_cons.1 (show ((k :: gs.map (·.1)).Pairwise (· < ·)) from hpw)
    have hgt : ∀ q ∈ gs, k < q.1 := fun q hq => hpw'.1 q.1 (List.mem_map.2 ⟨q, hq, rfl⟩)
    have hHlo : ∀ x, lo ≤ x → x < k → hasAt mf s.d0 s.d1 ((k, g) :: gs) x = s.op := by
      intro x h1 h2
      have hall : ∀ q ∈ ((k, g) :: gs), x < q.1 := by
        intro q hq
        rcases List.mem_cons.1 hq with rfl | hq
        · exact h2
        · have := hgt q hq; omega
      rw [hasAt, upto_none hall, upto_none hall, hop]
      simp
    have hHhi : ∀ x, k ≤ x → hasAt mf s.d0 s.d1 ((k, g) :: gs) x = hasAt mf (s.d0 + turned 0 g) (s.d1 + turned 1 g) gs x := by
      intro x h1
      rw [hasAt, hasAt, upto_cons_le (g := (k, g)) h1, upto_cons_le (g := (k, g)) h1]
      simp only [Int.add_assoc]
    have hfin' : mf (decide (0 < s.d0 + turned 0 g + turned 0 (gs.flatMap (·.2)))) (decide (0 < s.d1 + turned 1 g + turned 1 (gs.flatMap (·.2)))) = false := by
      simpa [turned_append, Int.add_assoc] using hfin
    obtain ⟨has, hhas⟩ : ∃ has, mf (decide (0 < s.d0 + turned 0 g)) (decide (0 < s.d1 + turned 1 g)) = has := ⟨_, rfl⟩
    have hstep : cutStep mf top bot s (k, g) = { d0 := s.d0 + turned 0 g, d1 := s.d1 + turned 1 g, from' := if has && !s.op then k else s.from', op := has, out := if !has && s.op then s.out ++ [⟨s.from', top, k - s.from', bot - top⟩] else s.out } := by
      simp only [cutStep, hhas]
    rw [List.foldl_cons, hstep]
    cases hs : s.op <;> cases has
    · -- shut, stays shut
      obtain ⟨tail, e1, e2, e3, e4, e5⟩ := ih { d0 := s.d0 + turned 0 g, d1 := s.d1 + turned 1 g, from' := s.from', op := false, out := s.out } k hpw'.2 hgt hhas.symm (by simp) hfin'
      refine ⟨tail, by simpa [hs] using e1, e2, e3, fun r hr => ?_, fun x => ?_⟩
      · rcases e4 r hr with h | h
        · simp at h
        · exact .inr ⟨rfl, by have := h.2; omega⟩
      · rw [e5 x]
        rcases Int.lt_or_le x k with h1 | h1
        · rcases Int.lt_or_le x lo with h2 | h2
          · simp; omega
          · have := hHlo x h2 h1
            rw [hs] at this
            simp [this]; omega
        · have h2 : lo ≤ x := by omega
          have h3 : ¬ x < lo := by omega
          have h4 : ¬ x < k := by omega
          simp [hHhi x h1, h1, h2, h3, h4]
    · -- shut, opens
      obtain ⟨tail, e1, e2, e3, e4, e5⟩ := ih { d0 := s.d0 + turned 0 g, d1 := s.d1 + turned 1 g, from' := k, op := true, out := s.out } k hpw'.2 hgt hhas.symm (by simp) hfin'
      refine ⟨tail, by simpa [hs] using e1, e2, e3, fun r hr => ?_, fun x => ?_⟩
      · rcases e4 r hr with h | h
        · exact .inr ⟨rfl, by have := h.2; simp at this; omega⟩
        · simp at h
      · rw [e5 x]
        rcases Int.lt_or_le x k with h1 | h1
        · rcases Int.lt_or_le x lo with h2 | h2
          · simp; omega
          · have := hHlo x h2 h1
            rw [hs] at this
            simp [this]; omega
        · have h2 : lo ≤ x := by omega
          have h3 : ¬ x < lo := by omega
          have h4 : ¬ x < k := by omega
          simp [hHhi x h1, h1, h2, h3, h4]
    · -- open, shuts
      obtain ⟨tail, e1, e2, e3, e4, e5⟩ := ih { d0 := s.d0 + turned 0 g, d1 := s.d1 + turned 1 g, from' := s.from', op := false, out := s.out ++ [⟨s.from', top, k - s.from', bot - top⟩] } k hpw'.2 hgt hhas.symm (by simp) hfin'
      have hf := hfr hs
      refine ⟨⟨s.from', top, k - s.from', bot - top⟩ :: tail, by simpa [hs] using e1, ⟨by simp; omega, fun q hq => ?_, e2⟩, fun r hr => ?_, fun r hr => ?_, fun x => ?_⟩
      · rcases e4 q hq with h | h
        · simp at h
        · have := h.2; simp; omega
      · rcases List.mem_cons.1 hr with rfl | hr
        · exact ⟨rfl, rfl⟩
        · exact e3 r hr
      · refine .inl ⟨rfl, ?_⟩
        rcases List.mem_cons.1 hr with rfl | hr
        · simp
        · rcases e4 r hr with h | h
          · simp at h
          · have := h.2; omega
      · rw [inX_cons, e5 x]
        rcases Int.lt_or_le x k with h1 | h1
        · rcases Int.lt_or_le x lo with h2 | h2
          · simp; omega
          · have := hHlo x h2 h1
            rw [hs] at this
            simp [this]; omega
        · have h2 : lo ≤ x := by omega
          have h3 : ¬ x < lo := by omega
          have h4 : ¬ x < k := by omega
          have h5 : ¬ (s.from' ≤ x ∧ x < s.from' + (k - s.from')) := by omega
          simp only [h5, false_or]
          simp [hHhi x h1, h1, h2, h3, h4]
    · -- open, stays open
      obtain ⟨tail, e1, e2, e3, e4, e5⟩ := ih { d0 := s.d0 + turned 0 g, d1 := s.d1 + turned 1 g, from' := s.from', op := true, out := s.out } k hpw'.2 hgt hhas.symm (by simp; have := hfr hs; omega) hfin'
      have hf := hfr hs
      refine ⟨tail, by simpa [hs] using e1, e2, e3, fun r hr => ?_, fun x => ?_⟩
      · rcases e4 r hr with h | h
        · exact .inl ⟨rfl, h.2⟩
        · simp at h
      · rw [e5 x]
        rcases Int.lt_or_le x k with h1 | h1
        · rcases Int.lt_or_le x lo with h2 | h2
          · simp; omega
          · have := hHlo x h2 h1
            rw [hs] at this
            simp [this]; omega
        · have h2 : lo ≤ x := by omega
          have h3 : ¬ x < lo := by omega
          have h4 : ¬ x < k := by omega
          simp [hHhi x h1, h1, h2, h3, h4]

end Go.Proofs.Ytjigdgfanpeibaa
