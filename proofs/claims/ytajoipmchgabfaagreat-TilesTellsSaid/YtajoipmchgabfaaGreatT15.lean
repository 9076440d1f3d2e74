/- Plain facts: strips put together to bands. -/
import Derived.Test.YtajoipmchgabfaaGreatT14
namespace Go.Proofs.YtajoipmchgabfaaGreat

/-- One strip more: what is done, and the band above. -/
def bandStep (s : List (List Rc) × List Rc) (st : List Rc) : List (List Rc) × List Rc :=
  if goesOnB s.2 st = true then (s.1, s.2.map (higher ((st.map (·.b)).headD 0))) else (if s.2 = [] then s.1 else s.1 ++ [s.2], st)

def bandFold (l : List (List Rc)) : List (List Rc) × List Rc := l.foldl bandStep ([], [])

def bandsOf (l : List (List Rc)) : List (List Rc) := if (bandFold l).2 = [] then (bandFold l).1 else (bandFold l).1 ++ [(bandFold l).2]

theorem bandFold_snoc (l : List (List Rc)) (st : List Rc) : bandFold (l ++ [st]) = bandStep (bandFold l) st := by simp [bandFold]

/-- A band: one place, one height, within the bounds. -/
def Uni (l : List Rc) : Prop := ∃ t h : Int, -1048576 ≤ t ∧ 0 < h ∧ t + h ≤ 1048576 ∧ ∀ r ∈ l, r.y = t ∧ r.b = h

theorem Uni.bd {l : List Rc} (h : Uni l) : ∀ r ∈ l, (-4294967296 ≤ r.y ∧ r.y ≤ 4294967296) ∧ (-4294967296 ≤ r.b ∧ r.b ≤ 4294967296) := by
  obtain ⟨t, h, h1, h2, h3, h4⟩ := h
  intro r hr
  have := h4 r hr
  omega

theorem Uni.higher {l st : List Rc} (h : Uni l) (hs : Uni st) (hg : goesOnB l st = true) : Uni (l.map (higher ((st.map (·.b)).headD 0))) := by
  obtain ⟨t, k, h1, h2, h3, h4⟩ := h
  obtain ⟨t', k', g1, g2, g3, g4⟩ := hs
  cases l with
  | nil => simp [goesOnB] at hg
  | cons r l =>
    cases st with
    | nil => simp [goesOnB] at hg
    | cons s m =>
      simp only [goesOnB, Bool.and_eq_true, decide_eq_true_eq] at hg
      have a1 := h4 r (by simp)
      have a2 := g4 s (by simp)
      have hy := hg.2.1
      refine ⟨t, k + k', h1, by omega, by omega, fun q hq => ?_⟩
      obtain ⟨q', hq', rfl⟩ := List.mem_map.1 hq
      have a3 := h4 q' hq'
      simp [Go.Proofs.YtajoipmchgabfaaGreat.higher]
      omega

theorem uni_nil : Uni [] := ⟨0, 1, by omega, by omega, by omega, by simp⟩

theorem bandStep_uni {s : List (List Rc) × List Rc} {st : List Rc} (h : Uni s.2) (hs : Uni st) : Uni (bandStep s st).2 := by
  unfold bandStep
  split
  · rename_i hg; exact h.higher hs hg
  · exact hs

theorem bandFold_uni {l : List (List Rc)} (h : ∀ st ∈ l, Uni st) : Uni (bandFold l).2 := by
  unfold bandFold
  have key : ∀ (l : List (List Rc)) (s : List (List Rc) × List Rc), Uni s.2 → (∀ st ∈ l, Uni st) → Uni (l.foldl bandStep s).2 := by
    intro l
    induction l with
    | nil => intro s hs _; exact hs
    | cons st l ih => intro s hs hl; exact ih _ (bandStep_uni hs (hl st (by simp))) (fun q hq => hl q (by simp [hq]))
  exact key l _ uni_nil h

theorem bands_prefix (l m : List (List Rc)) : ∃ more, (bandFold (l ++ m)).1 = (bandFold l).1 ++ more := by
  have key : ∀ (m : List (List Rc)) (s : List (List Rc) × List Rc), ∃ more, (m.foldl bandStep s).1 = s.1 ++ more := by
    intro m
    induction m with
    | nil => intro s; exact ⟨[], by simp⟩
    | cons st m ih =>
      intro s
      obtain ⟨more, hm⟩ := ih (bandStep s st)
      have : ∃ m1, (bandStep s st).1 = s.1 ++ m1 := by
        unfold bandStep
        split
        · exact ⟨[], by simp⟩
        · split
          · exact ⟨[], by simp⟩
          · exact ⟨[s.2], rfl⟩
      obtain ⟨m1, h1⟩ := this
      exact ⟨m1 ++ more, by rw [List.foldl_cons, hm, h1, List.append_assoc]⟩
  obtain ⟨more, hm⟩ := key m (bandFold l)
  exact ⟨more, by rw [← hm]; simp [bandFold]⟩

/-- What stands behind the band that is handed over next. -/
theorem bands_split {l rest : List (List Rc)} {st : List Rc} (hg : goesOnB (bandFold l).2 st = false) (hne : (bandFold l).2 ≠ []) : ∃ more, bandsOf (l ++ st :: rest) = (bandFold l).1 ++ (bandFold l).2 :: more := by
  obtain ⟨more, hm⟩ := bands_prefix (l ++ [st]) rest
  have e1 : l ++ st :: rest = (l ++ [st]) ++ rest := by simp
  have e2 : (bandFold (l ++ [st])).1 = (bandFold l).1 ++ [(bandFold l).2] := by
    rw [bandFold_snoc, bandStep, hg]
    simp [hne]
  rw [bandsOf, e1, hm, e2]
  split
  · exact ⟨more, by simp⟩
  · exact ⟨more ++ [(bandFold (l ++ st :: rest)).2], by simp⟩

/-- Strips are bands, and have pixels. -/
theorem strips_uni (mf : Bool → Bool → Bool) (hff : mf false false = false) (a b : List Rc) : ∀ st ∈ stripsL mf a b, Uni st := by
  have hb : ∀ k ∈ keysOf a b, -1048576 ≤ k ∧ k ≤ 1048576 := by
    intro k hk
    obtain ⟨e, he, rfl⟩ := mem_keys.1 hk
    exact (good_downs ((srt_perm _).mem_iff.1 he)).2
  have key : ∀ ks : List Int, ks.Pairwise (· < ·) → (∀ k ∈ ks, -1048576 ≤ k ∧ k ≤ 1048576) → ∀ st ∈ stripsK mf a b ks, Uni st := by
    intro ks
    induction ks with
    | nil => intro _ _ st hst; simp [stripsK] at hst
    | cons k ks ih =>
      intro hp hk st hst
      cases ks with
      | nil => simp [stripsK] at hst
      | cons k' ks =>
        rw [stripsK] at hst
        rcases List.mem_append.1 hst with hst | hst
        · split at hst
          · simp at hst
          · simp at hst
            subst hst
            have h1 := (List.pairwise_cons.1 hp).1 k' (by simp)
            have h2 := hk k (by simp)
            have h3 := hk k' (by simp)
            obtain ⟨_, hy, _⟩ := cut_out_sem mf hff k k' (act a k) (act b k) act_pos act_pos (srt (sidesAt a b k)) (srt_sorted _) (srt_perm _)
            exact ⟨k, k' - k, by omega, by omega, by omega, hy⟩
        · exact ih (List.pairwise_cons.1 hp).2 (fun q hq => hk q (by simp [hq])) st hst
  exact key _ (grp_keys (srt_sorted _)) hb

end Go.Proofs.YtajoipmchgabfaaGreat
