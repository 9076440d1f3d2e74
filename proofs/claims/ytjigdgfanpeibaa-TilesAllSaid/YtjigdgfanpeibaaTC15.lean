/- Plain facts: sorted edges in runs; which edges are active in a row; what cut makes of them. -/
import Derived.Test.YtjigdgfanpeibaaTC14
namespace Go.Proofs.Ytjigdgfanpeibaa

def SortedP (l : List Ed) : Prop := l.Pairwise (fun a b => a.pl ≤ b.pl)

theorem SortedPl.pw {l : List Ed} (h : SortedPl l) : SortedP l := by
  rw [SortedP, List.pairwise_iff_getElem]
  intro i j hi hj hij
  exact h i j hi hj hij

theorem grp_keyed {α : Type} {key : α → Int} {l : List α} {c : Int} {g : List α} (h : (c, g) ∈ grp key l) : ∀ x ∈ g, key x = c := by
  induction l generalizing c g with
  | nil => simp [grp] at h
  | cons x l ih =>
    simp only [grp] at h
    split at h
    · simp at h; intro z hz; rw [h.2] at hz; simp at hz; rw [hz, h.1]
    · rename_i y g' rest hh
      split at h
      · rename_i hy
        simp at h
        rcases h with ⟨h1, h2⟩ | h
        · intro z hz
          rw [h2] at hz
          rcases List.mem_cons.1 hz with rfl | hz
          · rw [h1, hy]
          · rw [h1]; exact ih (by rw [hh]; simp) z hz
        · exact ih (by rw [hh]; simp [h])
      · simp at h
        rcases h with ⟨h1, h2⟩ | ⟨h1, h2⟩ | h
        · intro z hz; rw [h2] at hz; simp at hz; rw [hz, h1]
        · exact ih (by rw [hh, h1, h2]; simp)
        · exact ih (by rw [hh]; simp [h])

theorem grp_keys {l : List Ed} (h : SortedP l) : ((grp Ed.pl l).map (·.1)).Pairwise (· < ·) := by
  induction l with
  | nil => simp [grp]
  | cons x l ih =>
    have hc := List.pairwise_cons.1 h
    have ih := ih hc.2
    simp only [grp]
    split
    · simp
    · rename_i y g rest hh
      rw [hh] at ih
      split
      · simpa using ih
      · rename_i hne
        have hy0 : x.pl < y := by
          obtain ⟨z, hz, hz2⟩ := grp_ne (c := y) (g := g) (l := l) (key := Ed.pl) (by rw [hh]; simp)
          have := hc.1 z (grp_mem (c := y) (g := g) (key := Ed.pl) (by rw [hh]; simp) hz)
          omega
        simp only [List.map_cons, List.pairwise_cons] at ih ⊢
        refine ⟨fun q hq => ?_, ih⟩
        rcases List.mem_cons.1 hq with hq | hq
        · omega
        · have h1 := ih.1 q hq
          omega

theorem grp_filter (l : List Ed) (x : Int) : ((grp Ed.pl l).filter (fun g => decide (g.1 ≤ x))).flatMap (·.2) = l.filter (fun e => decide (e.pl ≤ x)) := by
  have key : ∀ gs : List (Int × List Ed), (∀ q ∈ gs, ∀ e ∈ q.2, e.pl = q.1) → (gs.filter (fun g => decide (g.1 ≤ x))).flatMap (·.2) = (gs.flatMap (·.2)).filter (fun e => decide (e.pl ≤ x)) := by
    intro gs
    induction gs with
    | nil => simp
    | cons q gs ih =>
      intro hq
      have ih := ih (fun q' h' => hq q' (by simp [h']))
      rw [List.flatMap_cons, List.filter_append, ← ih]
      by_cases h : q.1 ≤ x
      · rw [List.filter_cons_of_pos (by simpa using h), List.flatMap_cons]
        congr 1
        symm
        refine List.filter_eq_self.2 (fun e he => ?_)
        rw [hq q (by simp) e he]
        simpa using h
      · rw [List.filter_cons_of_neg (by simpa using h)]
        have : q.2.filter (fun e => decide (e.pl ≤ x)) = [] := by
          rw [List.filter_eq_nil_iff]
          intro e he
          rw [hq q (by simp) e he]
          simpa using h
        rw [this, List.nil_append]
  have := key (grp Ed.pl l) (fun q hq e he => grp_keyed (c := q.1) (g := q.2) hq e he)
  rw [this, grp_flat]

theorem turned_perm (li : Int) {l m : List Ed} (h : l.Perm m) : turned li l = turned li m := by
  induction h with
  | nil => rfl
  | cons x _ ih => simp only [turned, ih]
  | swap x y l => simp only [turned]; omega
  | trans _ _ h1 h2 => rw [h1, h2]

/-- The left and right edges of rectangles. -/
def acrossOf (li : Int) (rs : List Rc) : List Ed := rs.flatMap fun r => [⟨r.x, li, 1, r⟩, ⟨r.x + r.a, li, -1, r⟩]

def inRow (rs : List Rc) (x : Int) : Bool := rs.any fun r => decide (r.x ≤ x ∧ x < r.x + r.a)

def cnt (rs : List Rc) (x : Int) : Int := (rs.filter (fun r => decide (r.x ≤ x ∧ x < r.x + r.a))).length

theorem turned_across_same (li : Int) (rs : List Rc) (x : Int) (h : ∀ r ∈ rs, 0 < r.a) : turned li ((acrossOf li rs).filter (fun e => decide (e.pl ≤ x))) = cnt rs x := by
  induction rs with
  | nil => rfl
  | cons r rs ih =>
    have ih := ih (fun q hq => h q (by simp [hq]))
    have hr := h r (by simp)
    simp only [acrossOf, List.flatMap_cons, List.filter_append, turned_append, cnt] at ih ⊢
    rw [ih]
    by_cases h1 : r.x ≤ x
    · by_cases h2 : x < r.x + r.a
      · simp [h1, h2, turned, show ¬ r.x + r.a ≤ x by omega]; omega
      · simp [h1, h2, turned, show r.x + r.a ≤ x by omega]
    · simp [h1, turned, show ¬ r.x + r.a ≤ x by omega]

theorem turned_across_other (li lj : Int) (hne : lj ≠ li) (rs : List Rc) (x : Int) : turned li ((acrossOf lj rs).filter (fun e => decide (e.pl ≤ x))) = 0 := by
  have key : ∀ l : List Ed, (∀ e ∈ l, e.li = lj) → turned li l = 0 := by
    intro l
    induction l with
    | nil => intro _; rfl
    | cons e l ih =>
      intro h
      simp only [turned]
      rw [ih (fun q hq => h q (by simp [hq])), h e (by simp), if_neg hne]
      rfl
  refine key _ (fun e he => ?_)
  have he := (List.mem_filter.1 he).1
  obtain ⟨r, _, hr⟩ := List.mem_flatMap.1 he
  simp at hr
  rcases hr with rfl | rfl <;> rfl

theorem cnt_pos (rs : List Rc) (x : Int) : decide (0 < cnt rs x) = inRow rs x := by
  rw [Bool.eq_iff_iff]
  simp only [decide_eq_true_eq, inRow, List.any_eq_true, cnt]
  constructor
  · intro h
    have h' : (0 : Int) < ((rs.filter (fun r => decide (r.x ≤ x ∧ x < r.x + r.a))).length : Nat) := of_decide_eq_true h
    have : 0 < (rs.filter (fun r => decide (r.x ≤ x ∧ x < r.x + r.a))).length := Int.natCast_pos.1 h'
    obtain ⟨r, hr⟩ := List.exists_mem_of_length_pos this
    exact ⟨r, (List.mem_filter.1 hr).1, by simpa using (List.mem_filter.1 hr).2⟩
  · rintro ⟨r, hr, h⟩
    have : r ∈ rs.filter (fun r => decide (r.x ≤ x ∧ x < r.x + r.a)) := List.mem_filter.2 ⟨hr, by simpa using h⟩
    exact decide_eq_true (Int.natCast_pos.2 (List.length_pos_of_mem this))

theorem low_bound (gs : List (Int × List Ed)) (x : Int) : ∃ lo : Int, lo ≤ x ∧ ∀ g ∈ gs, lo < g.1 := by
  induction gs with
  | nil => exact ⟨x, by omega, by simp⟩
  | cons g gs ih =>
    obtain ⟨lo, h1, h2⟩ := ih
    refine ⟨min lo (g.1 - 1), by omega, fun q hq => ?_⟩
    rcases List.mem_cons.1 hq with rfl | hq
    · omega
    · have := h2 q hq; omega

theorem turned_all (li : Int) (rs : List Rc) (lj : Int) : turned li (acrossOf lj rs) = 0 := by
  induction rs with
  | nil => rfl
  | cons r rs ih =>
    simp only [acrossOf, List.flatMap_cons, turned_append] at ih ⊢
    rw [ih]
    simp only [turned]
    split <;> simp

/-- What cut makes of the sorted edges of rectangles of two lists. -/
theorem cut_out_sem (mf : Bool → Bool → Bool) (hff : mf false false = false) (top bot : Int) (A B : List Rc) (hA : ∀ r ∈ A, 0 < r.a) (hB : ∀ r ∈ B, 0 < r.a) (l : List Ed) (hs : SortedP l) (hp : l.Perm (acrossOf 0 A ++ acrossOf 1 B)) :
    Chain (cutRun mf top bot (grp Ed.pl l)).out ∧ (∀ r ∈ (cutRun mf top bot (grp Ed.pl l)).out, r.y = top ∧ r.b = bot - top) ∧ ∀ x, inX (cutRun mf top bot (grp Ed.pl l)).out x ↔ mf (inRow A x) (inRow B x) = true := by
  have hfin : mf (decide (0 < (0 : Int) + turned 0 ((grp Ed.pl l).flatMap (·.2)))) (decide (0 < (0 : Int) + turned 1 ((grp Ed.pl l).flatMap (·.2)))) = false := by
    rw [grp_flat, turned_perm 0 hp, turned_perm 1 hp, turned_append, turned_append]
    simp [turned_all, hff]
  have main := fun lo (hlo : ∀ g ∈ grp Ed.pl l, lo < g.1) => cut_sem mf top bot (grp Ed.pl l) ⟨0, 0, 0, false, []⟩ lo (grp_keys hs) hlo (by simp [hff]) (by simp) hfin
  have hup : ∀ x, upto 0 (grp Ed.pl l) x = cnt A x ∧ upto 1 (grp Ed.pl l) x = cnt B x := by
    intro x
    have h1 := hp.filter (fun e => decide (e.pl ≤ x))
    rw [upto, upto, grp_filter, turned_perm 0 h1, turned_perm 1 h1, List.filter_append, turned_append, turned_append, turned_across_same 0 A x hA, turned_across_same 1 B x hB, turned_across_other 0 1 (by omega), turned_across_other 1 0 (by omega)]
    simp
  obtain ⟨lo0, _, hlo0⟩ := low_bound (grp Ed.pl l) 0
  obtain ⟨tail, e1, e2, e3, _, _⟩ := main lo0 hlo0
  have e1' : (cutRun mf top bot (grp Ed.pl l)).out = tail := by simpa [cutRun] using e1
  refine ⟨by rw [e1']; exact e2, by rw [e1']; exact e3, fun x => ?_⟩
  obtain ⟨lo, hx, hlo⟩ := low_bound (grp Ed.pl l) x
  obtain ⟨tail2, f1, _, _, _, f5⟩ := main lo hlo
  have f1' : (cutRun mf top bot (grp Ed.pl l)).out = tail2 := by simpa [cutRun] using f1
  rw [f1', f5 x]
  simp only [hasAt, (hup x).1, (hup x).2, Int.zero_add, cnt_pos]
  simp [hx]

theorem mergeE_perm (a b : List Ed) : (mergeE a b).Perm (a ++ b) := by
  fun_induction mergeE a b with
  | case1 => simp
  | case2 => simp
  | case3 x a y b h ih => simpa using ih
  | case4 x a y b h ih =>
    have h1 : (y :: mergeE (x :: a) b).Perm (y :: (x :: a ++ b)) := List.Perm.cons y ih
    refine h1.trans ?_
    have h2 : (y :: (x :: a ++ b)).Perm ((x :: a) ++ y :: b) := (List.perm_middle).symm
    exact h2

theorem mergeE_sorted (a b : List Ed) (ha : SortedP a) (hb : SortedP b) : SortedP (mergeE a b) := by
  unfold SortedP at *
  fun_induction mergeE a b with
  | case1 => exact hb
  | case2 => exact ha
  | case3 x a y b h ih =>
    have h1 := List.pairwise_cons.1 ha
    have h2 := List.pairwise_cons.1 hb
    refine List.pairwise_cons.2 ⟨fun z hz => ?_, ih h1.2 hb⟩
    rcases List.mem_append.1 ((mergeE_perm a (y :: b)).mem_iff.1 hz) with hz | hz
    · exact h1.1 z hz
    · rcases List.mem_cons.1 hz with rfl | hz
      · exact h
      · have := h2.1 z hz; omega
  | case4 x a y b h ih =>
    have h1 := List.pairwise_cons.1 ha
    have h2 := List.pairwise_cons.1 hb
    refine List.pairwise_cons.2 ⟨fun z hz => ?_, ih ha h2.2⟩
    rcases List.mem_append.1 ((mergeE_perm (x :: a) b).mem_iff.1 hz) with hz | hz
    · rcases List.mem_cons.1 hz with rfl | hz
      · omega
      · have := h1.1 z hz; omega
    · exact h2.1 z hz

end Go.Proofs.Ytjigdgfanpeibaa
