/- Several texts in one, each with its own head. -/
import Derived.Test.YtjigdgfanpeibaaTC16
import Derived.Test.YtjigdgfanpeibaaTC17
/- Plain facts for the walk of region's strips: bounds, and one place more. -/
namespace Go.Proofs.Ytjigdgfanpeibaa
open Go.RowKit

theorem owns_mono {W : World} {base base' : Nat} {e : TypeId} {size : Nat} {v : Value} {n : Nat} {xs : List Value} (h : W.ownsRow base e size v n xs) (hb : base' ≤ base) : W.ownsRow base' e size v n xs := by
  refine ⟨h.1, ?_⟩
  rcases h.2 with h0 | ⟨g, cap, cur, h1, h2, h3⟩
  · exact .inl h0
  · exact .inr ⟨g, cap, cur, h1, by omega, h3⟩

theorem good_downs {a b : List Rc} {e : Ed} (h : e ∈ downsL a b) : GoodEd e ∧ -1048576 ≤ e.pl ∧ e.pl ≤ 1048576 := by
  rcases mem_downs.1 h with ⟨r, _, he, h | h⟩ | ⟨r, _, he, h | h⟩ <;> subst h <;> have hb := emptyR_false.1 he
  · exact ⟨⟨.inl rfl, .inl rfl, he⟩, by simp; omega, by simp; omega⟩
  · exact ⟨⟨.inl rfl, .inr rfl, he⟩, by simp; omega, by simp; omega⟩
  · exact ⟨⟨.inr rfl, .inl rfl, he⟩, by simp; omega, by simp; omega⟩
  · exact ⟨⟨.inr rfl, .inr rfl, he⟩, by simp; omega, by simp; omega⟩

theorem good_across {li : Int} (hli : li = 0 ∨ li = 1) {a : List Rc} {y : Int} {e : Ed} (h : e ∈ acrossOf li (act a y)) : GoodEd e ∧ -1048576 ≤ e.pl ∧ e.pl ≤ 1048576 := by
  obtain ⟨r, hr, he⟩ := List.mem_flatMap.1 h
  have hl := (List.mem_filter.1 hr).2
  simp only [liveAt, Bool.and_eq_true, Bool.not_eq_true'] at hl
  have hb := emptyR_false.1 hl.1
  simp at he
  rcases he with rfl | rfl
  · exact ⟨⟨hli, .inl rfl, hl.1⟩, by simp; omega, by simp; omega⟩
  · exact ⟨⟨hli, .inr rfl, hl.1⟩, by simp; omega, by simp; omega⟩

theorem good_sides {a b : List Rc} {y : Int} {e : Ed} (h : e ∈ sidesAt a b y) : GoodEd e ∧ -1048576 ≤ e.pl ∧ e.pl ≤ 1048576 := by
  rcases List.mem_append.1 h with h | h
  · exact good_across (.inl rfl) h
  · exact good_across (.inr rfl) h

theorem acrossOf_len (li : Int) (rs : List Rc) : (acrossOf li rs).length = 2 * rs.length := by
  induction rs with
  | nil => rfl
  | cons r rs ih => simp only [acrossOf, List.flatMap_cons, List.length_append, List.length_cons] at ih ⊢; rw [ih]; simp; omega

theorem sides_len (a b : List Rc) (y : Int) : (sidesAt a b y).length ≤ 2 * (a.length + b.length) := by
  rw [sidesAt, List.length_append, acrossOf_len, acrossOf_len]
  have h1 : (act a y).length ≤ a.length := List.length_filter_le _ _
  have h2 : (act b y).length ≤ b.length := List.length_filter_le _ _
  omega

/-- Which places were gone through, and what the sides are. -/
def SidesAre (a b : List Rc) (pre : List (Int × List Ed)) (sides : List Ed) (top : Int) : Prop :=
  SortedP sides ∧ ((pre = [] ∧ sides = [] ∧ top = 0) ∨ ∃ q ps, pre = ps ++ [q] ∧ sides.Perm (sidesAt a b q.1) ∧ top = q.1)

theorem SidesAre.good {a b : List Rc} {pre : List (Int × List Ed)} {sides : List Ed} {top : Int} (h : SidesAre a b pre sides top) : ∀ e ∈ sides, GoodEd e ∧ -1048576 ≤ e.pl ∧ e.pl ≤ 1048576 := by
  intro e he
  rcases h.2 with ⟨_, rfl, _⟩ | ⟨q, ps, _, hp, _⟩
  · simp at he
  · exact good_sides (hp.mem_iff.1 he)

theorem SidesAre.len {a b : List Rc} {pre : List (Int × List Ed)} {sides : List Ed} {top : Int} (h : SidesAre a b pre sides top) : sides.length ≤ 2 * (a.length + b.length) := by
  rcases h.2 with ⟨_, rfl, _⟩ | ⟨q, ps, _, hp, _⟩
  · simp
  · rw [hp.length_eq]; exact sides_len a b q.1

theorem SidesAre.top {a b : List Rc} {d : List Ed} {pre rest : List (Int × List Ed)} {sides : List Ed} {top : Int} (hp : d.Perm (downsL a b)) (hg : grp Ed.pl d = pre ++ rest) (h : SidesAre a b pre sides top) : -1048576 ≤ top ∧ top ≤ 1048576 := by
  rcases h.2 with ⟨_, _, rfl⟩ | ⟨q, ps, hpre, _, rfl⟩
  · omega
  · have hq : q ∈ grp Ed.pl d := by rw [hg, hpre]; simp
    obtain ⟨e, he, h1⟩ := grp_ne (c := q.1) (g := q.2) hq
    have := (good_downs (hp.mem_iff.1 (grp_mem hq he))).2
    rw [h1] at this
    exact this

/-- The strip down to the next place. -/
def nextStrip (mf : Bool → Bool → Bool) (a b : List Rc) (pre : List (Int × List Ed)) (y : Int) : List Rc :=
  match pre.getLast? with
  | none => []
  | some q => stripC mf a b q.1 y

theorem SidesAre.cut {a b : List Rc} {pre : List (Int × List Ed)} {sides : List Ed} {top y : Int} (mf : Bool → Bool → Bool) (hff : mf false false = false) (h : SidesAre a b pre sides top) : (cutRun mf top y (grp Ed.pl sides)).out = nextStrip mf a b pre y := by
  rcases h.2 with ⟨rfl, rfl, _⟩ | ⟨q, ps, rfl, hp, rfl⟩
  · rfl
  · rw [strip_unique mf hff h.1 hp]
    simp [nextStrip]

theorem strips_next (mf : Bool → Bool → Bool) (a b : List Rc) (pre : List (Int × List Ed)) (y : Int) (g : List Ed) : stripsK mf a b ((pre ++ [(y, g)]).map (·.1)) = stripsK mf a b (pre.map (·.1)) ++ (if nextStrip mf a b pre y = [] then [] else [nextStrip mf a b pre y]) := by
  rcases List.eq_nil_or_concat pre with rfl | ⟨ps, q, rfl⟩
  · simp [nextStrip, stripsK]
  · have := stripsK_snoc mf a b q.1 y (ps.map (·.1))
    simpa [nextStrip] using this

theorem strips_prefix (mf : Bool → Bool → Bool) (a b : List Rc) : ∀ (ks rest : List Int), ∃ more, stripsK mf a b (ks ++ rest) = stripsK mf a b ks ++ more
  | [], rest => ⟨_, by simp [stripsK]; rfl⟩
  | [k], rest => ⟨stripsK mf a b (k :: rest), by simp [stripsK]⟩
  | k :: k' :: ks, rest => by
    obtain ⟨more, hm⟩ := strips_prefix mf a b (k' :: ks) rest
    refine ⟨more, ?_⟩
    simp only [List.cons_append, stripsK] at hm ⊢
    rw [hm, List.append_assoc]

/-- What stands behind the strip that is handed over next. -/
theorem strips_split {mf : Bool → Bool → Bool} {a b : List Rc} {d : List Ed} {pre rest : List (Int × List Ed)} {y : Int} {g : List Ed} (hs : SortedP d) (hp : d.Perm (downsL a b)) (hg : grp Ed.pl d = pre ++ (y, g) :: rest) (hne : nextStrip mf a b pre y ≠ []) :
    ∃ more, stripsL mf a b = stripsK mf a b (pre.map (·.1)) ++ nextStrip mf a b pre y :: more := by
  have hk := keys_unique hs hp
  obtain ⟨more, hm⟩ := strips_prefix mf a b ((pre ++ [(y, g)]).map (·.1)) (rest.map (·.1))
  refine ⟨more, ?_⟩
  have e : keysOf a b = (pre ++ [(y, g)]).map (·.1) ++ rest.map (·.1) := by rw [← hk, hg]; simp
  rw [stripsL, e, hm, strips_next, if_neg hne]
  simp

/-- One place more. -/
theorem SidesAre.next {a b : List Rc} {d acr : List Ed} {pre rest : List (Int × List Ed)} {sides : List Ed} {top y : Int} {g : List Ed} (hs : SortedP d) (hp : d.Perm (downsL a b)) (hg : grp Ed.pl d = pre ++ (y, g) :: rest) (h : SidesAre a b pre sides top) (ha : SortedP acr) (hap : acr.Perm (acrossL g)) :
    SidesAre a b (pre ++ [(y, g)]) (mergeE (sides.filter (fun e => !endsAt y e)) acr) y := by
  have hk := grp_keys hs
  rw [hg, List.map_append, List.map_cons, List.pairwise_append, List.pairwise_cons] at hk
  have hin : (y, g) ∈ grp Ed.pl d := by rw [hg]; simp
  have hall : ∀ e ∈ d, (∃ q ∈ pre, q.1 = e.pl) ∨ y ≤ e.pl := by
    intro e he
    obtain ⟨q, hq, h1⟩ := List.mem_map.1 (mem_keys.2 ⟨e, he, rfl⟩)
    rw [hg] at hq
    rcases List.mem_append.1 hq with hq | hq
    · exact .inl ⟨q, hq, h1⟩
    · rcases List.mem_cons.1 hq with rfl | hq
      · exact .inr (by simp at h1; omega)
      · have := hk.2.1.1 q.1 (List.mem_map.2 ⟨q, hq, rfl⟩)
        exact .inr (by omega)
  rcases h.2 with ⟨rfl, rfl, _⟩ | ⟨q, ps, rfl, hsp, _⟩
  · have hmin : ∀ e ∈ d, y ≤ e.pl := fun e he => by
      rcases hall e he with ⟨q, hq, _⟩ | h
      · simp at hq
      · exact h
    have h0 : sidesAt a b (y - 1) = [] := sides_none (fun e he => by have := hmin e (hp.mem_iff.2 he); omega)
    have := sides_step (prev := y - 1) hs hp hin (by omega) (fun e he => .inr (hmin e he)) h.1 (by rw [h0]) ha hap
    exact ⟨this.1, .inr ⟨(y, g), [], by simp, this.2, rfl⟩⟩
  · have hlast : ∀ q' ∈ ps ++ [q], q'.1 ≤ q.1 := by
      intro q' hq'
      rcases List.mem_append.1 hq' with hq' | hq'
      · have h5 := hk.1
        rw [List.map_append, List.pairwise_append] at h5
        have := h5.2.2 q'.1 (List.mem_map.2 ⟨q', hq', rfl⟩) q.1 (by simp)
        omega
      · simp at hq'; rw [hq']; omega
    have hlt : q.1 < y := hk.2.2 q.1 (by simp) y (by simp)
    have := sides_step (prev := q.1) hs hp hin hlt (fun e he => by
      rcases hall e he with ⟨q', hq', h1⟩ | h
      · have := hlast q' hq'; exact .inl (by omega)
      · exact .inr h) h.1 hsp ha hap
    exact ⟨this.1, .inr ⟨(y, g), ps ++ [q], rfl, this.2, rfl⟩⟩

end Go.Proofs.Ytjigdgfanpeibaa

/- Plain facts: strips put together to bands. -/
namespace Go.Proofs.Ytjigdgfanpeibaa

/-- One strip more: what is done, and the band above. -/
def bandStep (s : List (List Rc) × List Rc) (st : List Rc) : List (List Rc) × List Rc :=
  if goesOnB s.2 st = true then (s.1, s.2.map (higher ((st.map (·.b)).headD 0))) else (if s.2 = [] then s.1 else s.1 ++ [s.2], st)

def bandFold (l : List (List Rc)) : List (List Rc) × List Rc := l.foldl bandStep ([], [])

def bandsOf (l : List (List Rc)) : List (List Rc) := if (bandFold l).2 = [] then (bandFold l).1 else (bandFold l).1 ++ [(bandFold l).2]

theorem bandFold_snoc (l : List (List Rc)) (st : List Rc) : bandFold (l ++ [st]) = bandStep (bandFold l) st := by simp [bandFold]

/-- A band: one place, one height, within the bounds. -/
def Uni (l : List Rc) : Prop := ∃ t h : Int, -1048576 ≤ t ∧ 0 < h ∧ t + h ≤ 1048576 ∧ ∀ r ∈ l, r.y = t ∧ r.b = h

theorem Uni.bd {l : List Rc} (h : Uni l) : ∀ r ∈ l, (-4294967296 ≤ r.y ∧ r.y ≤ 4294967296) ∧ (-4294967296 ≤ r.b ∧ r.b ≤ 4294967296) := by
  obtain ⟨t, h, h1, h2, h3, h4⟩ := h
  intro r hr
  have := h4 r hr
  omega

theorem Uni.higher {l st : List Rc} (h : Uni l) (hs : Uni st) (hg : goesOnB l st = true) : Uni (l.map (higher ((st.map (·.b)).headD 0))) := by
  obtain ⟨t, k, h1, h2, h3, h4⟩ := h
  obtain ⟨t', k', g1, g2, g3, g4⟩ := hs
  cases l with
  | nil => simp [goesOnB] at hg
  | cons r l =>
    cases st with
    | nil => simp [goesOnB] at hg
    | cons s m =>
      simp only [goesOnB, Bool.and_eq_true, decide_eq_true_eq] at hg
      have a1 := h4 r (by simp)
      have a2 := g4 s (by simp)
      have hy := hg.2.1
      refine ⟨t, k + k', h1, by omega, by omega, fun q hq => ?_⟩
      obtain ⟨q', hq', rfl⟩ := List.mem_map.1 hq
      have a3 := h4 q' hq'
      simp [Go.Proofs.Ytjigdgfanpeibaa.higher]
      omega

theorem uni_nil : Uni [] := ⟨0, 1, by omega, by omega, by omega, by simp⟩

theorem bandStep_uni {s : List (List Rc) × List Rc} {st : List Rc} (h : Uni s.2) (hs : Uni st) : Uni (bandStep s st).2 := by
  unfold bandStep
  split
  · rename_i hg; exact h.higher hs hg
  · exact hs

theorem bandFold_uni {l : List (List Rc)} (h : ∀ st ∈ l, Uni st) : Uni (bandFold l).2 := by
  unfold bandFold
  have key : ∀ (l : List (List Rc)) (s : List (List Rc) × List Rc), Uni s.2 → (∀ st ∈ l, Uni st) → Uni (l.foldl bandStep s).2 := by
    intro l
    induction l with
    | nil => intro s hs _; exact hs
    | cons st l ih => intro s hs hl; exact ih _ (bandStep_uni hs (hl st (by simp))) (fun q hq => hl q (by simp [hq]))
  exact key l _ uni_nil h

theorem bands_prefix (l m : List (List Rc)) : ∃ more, (bandFold (l ++ m)).1 = (bandFold l).1 ++ more := by
  have key : ∀ (m : List (List Rc)) (s : List (List Rc) × List Rc), ∃ more, (m.foldl bandStep s).1 = s.1 ++ more := by
    intro m
    induction m with
    | nil => intro s; exact ⟨[], by simp⟩
    | cons st m ih =>
      intro s
      obtain ⟨more, hm⟩ := ih (bandStep s st)
      have : ∃ m1, (bandStep s st).1 = s.1 ++ m1 := by
        unfold bandStep
        split
        · exact ⟨[], by simp⟩
        · split
          · exact ⟨[], by simp⟩
          · exact ⟨[s.2], rfl⟩
      obtain ⟨m1, h1⟩ := this
      exact ⟨m1 ++ more, by rw [List.foldl_cons, hm, h1, List.append_assoc]⟩
  obtain ⟨more, hm⟩ := key m (bandFold l)
  exact ⟨more, by rw [← hm]; simp [bandFold]⟩

/-- What stands behind the band that is handed over next. -/
theorem bands_split {l rest : List (List Rc)} {st : List Rc} (hg : goesOnB (bandFold l).2 st = false) (hne : (bandFold l).2 ≠ []) : ∃ more, bandsOf (l ++ st :: rest) = (bandFold l).1 ++ (bandFold l).2 :: more := by
  obtain ⟨more, hm⟩ := bands_prefix (l ++ [st]) rest
  have e1 : l ++ st :: rest = (l ++ [st]) ++ rest := by simp
  have e2 : (bandFold (l ++ [st])).1 = (bandFold l).1 ++ [(bandFold l).2] := by
    rw [bandFold_snoc, bandStep, hg]
    simp [hne]
  rw [bandsOf, e1, hm, e2]
  split
  · exact ⟨more, by simp⟩
  · exact ⟨more ++ [(bandFold (l ++ st :: rest)).2], by simp⟩

/-- Strips are bands, and have pixels. -/
theorem strips_uni (mf : Bool → Bool → Bool) (hff : mf false false = false) (a b : List Rc) : ∀ st ∈ stripsL mf a b, Uni st := by
  have hb : ∀ k ∈ keysOf a b, -1048576 ≤ k ∧ k ≤ 1048576 := by
    intro k hk
    obtain ⟨e, he, rfl⟩ := mem_keys.1 hk
    exact (good_downs ((srt_perm _).mem_iff.1 he)).2
  have key : ∀ ks : List Int, ks.Pairwise (· < ·) → (∀ k ∈ ks, -1048576 ≤ k ∧ k ≤ 1048576) → ∀ st ∈ stripsK mf a b ks, Uni st := by
    intro ks
    induction ks with
    | nil => intro _ _ st hst; simp [stripsK] at hst
    | cons k ks ih =>
      intro hp hk st hst
      cases ks with
      | nil => simp [stripsK] at hst
      | cons k' ks =>
        rw [stripsK] at hst
        rcases List.mem_append.1 hst with hst | hst
        · split at hst
          · simp at hst
          · simp at hst
            subst hst
            have h1 := (List.pairwise_cons.1 hp).1 k' (by simp)
            have h2 := hk k (by simp)
            have h3 := hk k' (by simp)
            obtain ⟨_, hy, _⟩ := cut_out_sem mf hff k k' (act a k) (act b k) act_pos act_pos (srt (sidesAt a b k)) (srt_sorted _) (srt_perm _)
            exact ⟨k, k' - k, by omega, by omega, by omega, hy⟩
        · exact ih (List.pairwise_cons.1 hp).2 (fun q hq => hk q (by simp [hq])) st hst
  exact key _ (grp_keys (srt_sorted _)) hb

end Go.Proofs.Ytjigdgfanpeibaa
