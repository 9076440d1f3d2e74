/- Plain facts: from edge to edge, which rectangles are active; the strips of two lists. -/
import Derived.Test.YtajoipmchgabfaaGreatT12
namespace Go.Proofs.YtajoipmchgabfaaGreat

def liveAt (y : Int) (r : Rc) : Bool := !emptyR r && decide (r.y ≤ y ∧ y < r.y + r.b)
def act (a : List Rc) (y : Int) : List Rc := a.filter (liveAt y)
def sidesAt (a b : List Rc) (y : Int) : List Ed := acrossOf 0 (act a y) ++ acrossOf 1 (act b y)

theorem act_pos {a : List Rc} {y : Int} : ∀ r ∈ act a y, 0 < r.a := by
  intro r hr
  have := (List.mem_filter.1 hr).2
  simp only [liveAt, Bool.and_eq_true, Bool.not_eq_true'] at this
  exact (emptyR_false.1 this.1).1.2.1

theorem across_group (li : Int) (rs : List Rc) (k : Int) : acrossL ((edgesOf li rs).filter (fun e => decide (e.pl = k))) = acrossOf li (rs.filter (fun r => !emptyR r && decide (r.y = k))) := by
  induction rs with
  | nil => rfl
  | cons r rs ih =>
    simp only [edgesOf, List.flatMap_cons, List.filter_append] at ih ⊢
    simp only [acrossL, List.flatMap_append] at ih ⊢
    rw [ih]
    cases he : emptyR r
    · by_cases h1 : r.y = k
      · by_cases h2 : r.y + r.b = k
        · have h3 := (emptyR_false.1 he).2.2.1
          omega
        · have h3 : ¬ (k + r.b = k) := by omega
          simp [he, h1, h3, acrossOf]
      · by_cases h2 : r.y + r.b = k <;> simp [he, h1, h2, acrossOf]
    · simp [he]

theorem across_without (li : Int) (rs : List Rc) (k : Int) : (acrossOf li rs).filter (fun e => !endsAt k e) = acrossOf li (rs.filter (fun r => decide (r.y + r.b ≠ k))) := by
  induction rs with
  | nil => rfl
  | cons r rs ih =>
    simp only [acrossOf, List.flatMap_cons, List.filter_append] at ih ⊢
    rw [ih]
    by_cases h : r.y + r.b = k <;> simp [endsAt, h]

theorem filter_split {α : Type} {p q1 q2 : α → Bool} : ∀ (l : List α), (∀ r ∈ l, p r = (q1 r || q2 r)) → (∀ r ∈ l, ¬ (q1 r = true ∧ q2 r = true)) → (l.filter p).Perm (l.filter q1 ++ l.filter q2)
  | [], _, _ => by simp
  | r :: l, h1, h2 => by
    have ih := filter_split l (fun q hq => h1 q (by simp [hq])) (fun q hq => h2 q (by simp [hq]))
    have e := h1 r (by simp)
    have n := h2 r (by simp)
    cases a1 : q1 r <;> cases a2 : q2 r
    · simpa [List.filter_cons, e, a1, a2] using ih
    · simp only [List.filter_cons, e, a1, a2]
      simp only [Bool.or_true, if_true, Bool.false_eq_true, if_false]
      exact (List.Perm.cons r ih).trans List.perm_middle.symm
    · simp only [List.filter_cons, e, a1, a2]
      simp only [Bool.or_false, if_true, Bool.false_eq_true, if_false, List.cons_append]
      exact List.Perm.cons r ih
    · exact absurd ⟨a1, a2⟩ n

theorem act_step (a : List Rc) (prev k : Int) (hlt : prev < k) (hno : ∀ r ∈ a, emptyR r = false → (r.y ≤ prev ∨ k ≤ r.y) ∧ (r.y + r.b ≤ prev ∨ k ≤ r.y + r.b)) :
    (act a k).Perm ((act a prev).filter (fun r => decide (r.y + r.b ≠ k)) ++ a.filter (fun r => !emptyR r && decide (r.y = k))) := by
  rw [act, act, List.filter_filter]
  refine filter_split a (fun r hr => ?_) (fun r hr => ?_)
  · cases he : emptyR r
    · have h1 := hno r hr he
      have h2 := (emptyR_false.1 he).2.2.1
      rw [Bool.eq_iff_iff]
      simp [liveAt, he]
      omega
    · simp [liveAt, he]
  · cases he : emptyR r
    · simp [liveAt, he]
      omega
    · simp [liveAt, he]

theorem acrossL_perm {l m : List Ed} (h : l.Perm m) : (acrossL l).Perm (acrossL m) := h.flatMap_right _
theorem acrossOf_perm {li : Int} {l m : List Rc} (h : l.Perm m) : (acrossOf li l).Perm (acrossOf li m) := h.flatMap_right _
theorem acrossOf_append (li : Int) (l m : List Rc) : acrossOf li (l ++ m) = acrossOf li l ++ acrossOf li m := by simp [acrossOf]

theorem grp_elem {d : List Ed} (hs : SortedP d) {k : Int} {g : List Ed} (h : (k, g) ∈ grp Ed.pl d) : g = d.filter (fun e => decide (e.pl = k)) := by
  have key : ∀ gs : List (Int × List Ed), (gs.map (·.1)).Pairwise (· < ·) → (∀ q ∈ gs, ∀ e ∈ q.2, e.pl = q.1) → ∀ q ∈ gs, q.2 = (gs.flatMap (·.2)).filter (fun e => decide (e.pl = q.1)) := by
    intro gs
    induction gs with
    | nil => simp
    | cons p gs ih =>
      intro hp hq q hmem
      have hp' := List.pairwise_cons.1 (show (p.1 :: gs.map (·.1)).Pairwise (· < ·) from hp)
      rw [List.flatMap_cons, List.filter_append]
      rcases List.mem_cons.1 hmem with rfl | hmem
      · have h1 : q.2.filter (fun e => decide (e.pl = q.1)) = q.2 := List.filter_eq_self.2 (fun e he => by simpa using hq q (by simp) e he)
        have h2 : (gs.flatMap (·.2)).filter (fun e => decide (e.pl = q.1)) = [] := by
          rw [List.filter_eq_nil_iff]
          intro e he
          obtain ⟨q', hq', he'⟩ := List.mem_flatMap.1 he
          have h3 := hq q' (by simp [hq']) e he'
          have h4 := hp'.1 q'.1 (List.mem_map.2 ⟨q', hq', rfl⟩)
          simp; omega
        rw [h1, h2, List.append_nil]
      · have h1 := ih hp'.2 (fun q' h' => hq q' (by simp [h'])) q hmem
        have h2 : p.2.filter (fun e => decide (e.pl = q.1)) = [] := by
          rw [List.filter_eq_nil_iff]
          intro e he
          have h3 := hq p (by simp) e he
          have h4 := hp'.1 q.1 (List.mem_map.2 ⟨q, hmem, rfl⟩)
          simp; omega
        rw [h2, List.nil_append]
        exact h1
  have := key _ (grp_keys hs) (fun q hq e he => grp_keyed (c := q.1) (g := q.2) hq e he) (k, g) h
  rw [grp_flat] at this
  exact this

theorem mem_downs {a b : List Rc} {e : Ed} : e ∈ downsL a b ↔ (∃ r ∈ a, emptyR r = false ∧ (e = ⟨r.y, 0, 1, r⟩ ∨ e = ⟨r.y + r.b, 0, -1, r⟩)) ∨ (∃ r ∈ b, emptyR r = false ∧ (e = ⟨r.y, 1, 1, r⟩ ∨ e = ⟨r.y + r.b, 1, -1, r⟩)) := by
  have key : ∀ li rs, e ∈ edgesOf li rs ↔ ∃ r ∈ rs, emptyR r = false ∧ (e = ⟨r.y, li, 1, r⟩ ∨ e = ⟨r.y + r.b, li, -1, r⟩) := by
    intro li rs
    simp only [edgesOf, List.mem_flatMap]
    constructor
    · rintro ⟨r, hr, h⟩
      cases he : emptyR r
      · rw [he] at h; simp at h; exact ⟨r, hr, he, h⟩
      · rw [he] at h; simp at h
    · rintro ⟨r, hr, he, h⟩
      exact ⟨r, hr, by rw [he]; simpa using h⟩
  rw [downsL, List.mem_append, key, key]

/-- From one edge down to the next one. -/
theorem sides_step {a b : List Rc} {d sides acr g : List Ed} {prev k : Int} (hd : SortedP d) (hp : d.Perm (downsL a b)) (hg : (k, g) ∈ grp Ed.pl d) (hlt : prev < k) (hno : ∀ e ∈ d, e.pl ≤ prev ∨ k ≤ e.pl)
    (hs : SortedP sides) (hsp : sides.Perm (sidesAt a b prev)) (ha : SortedP acr) (hap : acr.Perm (acrossL g)) :
    SortedP (mergeE (sides.filter (fun e => !endsAt k e)) acr) ∧ (mergeE (sides.filter (fun e => !endsAt k e)) acr).Perm (sidesAt a b k) := by
  refine ⟨mergeE_sorted _ _ (List.Pairwise.filter _ hs) ha, ?_⟩
  have hnoA : ∀ r ∈ a, emptyR r = false → (r.y ≤ prev ∨ k ≤ r.y) ∧ (r.y + r.b ≤ prev ∨ k ≤ r.y + r.b) := fun r hr he =>
    ⟨hno ⟨r.y, 0, 1, r⟩ (hp.mem_iff.2 (mem_downs.2 (.inl ⟨r, hr, he, .inl rfl⟩))), hno ⟨r.y + r.b, 0, -1, r⟩ (hp.mem_iff.2 (mem_downs.2 (.inl ⟨r, hr, he, .inr rfl⟩)))⟩
  have hnoB : ∀ r ∈ b, emptyR r = false → (r.y ≤ prev ∨ k ≤ r.y) ∧ (r.y + r.b ≤ prev ∨ k ≤ r.y + r.b) := fun r hr he =>
    ⟨hno ⟨r.y, 1, 1, r⟩ (hp.mem_iff.2 (mem_downs.2 (.inr ⟨r, hr, he, .inl rfl⟩))), hno ⟨r.y + r.b, 1, -1, r⟩ (hp.mem_iff.2 (mem_downs.2 (.inr ⟨r, hr, he, .inr rfl⟩)))⟩
  have h1 : (sides.filter (fun e => !endsAt k e)).Perm (acrossOf 0 ((act a prev).filter (fun r => decide (r.y + r.b ≠ k))) ++ acrossOf 1 ((act b prev).filter (fun r => decide (r.y + r.b ≠ k)))) := by
    have := hsp.filter (fun e => !endsAt k e)
    rwa [sidesAt, List.filter_append, across_without, across_without] at this
  have h2 : acr.Perm (acrossOf 0 (a.filter (fun r => !emptyR r && decide (r.y = k))) ++ acrossOf 1 (b.filter (fun r => !emptyR r && decide (r.y = k)))) := by
    refine hap.trans ?_
    rw [grp_elem hd hg]
    have h3 := acrossL_perm (hp.filter (fun e => decide (e.pl = k)))
    rw [downsL, List.filter_append] at h3
    have h4 : ∀ l m : List Ed, acrossL (l ++ m) = acrossL l ++ acrossL m := fun l m => by simp [acrossL]
    rwa [h4, across_group, across_group] at h3
  refine (mergeE_perm _ _).trans ((h1.append h2).trans ?_)
  have hA := acrossOf_perm (li := 0) (act_step a prev k hlt hnoA)
  have hB := acrossOf_perm (li := 1) (act_step b prev k hlt hnoB)
  rw [acrossOf_append] at hA hB
  refine List.Perm.trans ?_ (hA.append hB).symm
  have sw : ∀ A B C D : List Ed, ((A ++ B) ++ (C ++ D)).Perm ((A ++ C) ++ (B ++ D)) := by
    intro A B C D
    simp only [List.append_assoc]
    refine List.Perm.append_left A ?_
    rw [← List.append_assoc, ← List.append_assoc]
    exact List.Perm.append_right D List.perm_append_comm
  exact sw _ _ _ _

/-- Nothing is active above all edges. -/
theorem sides_none {a b : List Rc} {prev : Int} (h : ∀ e ∈ downsL a b, prev < e.pl) : sidesAt a b prev = [] := by
  have h1 : act a prev = [] := by
    rw [act, List.filter_eq_nil_iff]
    intro r hr
    cases he : emptyR r
    · have := h _ (mem_downs.2 (.inl ⟨r, hr, he, .inl rfl⟩)); simp at this; simp [liveAt, he]; omega
    · simp [liveAt, he]
  have h2 : act b prev = [] := by
    rw [act, List.filter_eq_nil_iff]
    intro r hr
    cases he : emptyR r
    · have := h _ (mem_downs.2 (.inr ⟨r, hr, he, .inl rfl⟩)); simp at this; simp [liveAt, he]; omega
    · simp [liveAt, he]
  simp [sidesAt, h1, h2, acrossOf]

def srt (l : List Ed) : List Ed := l.mergeSort (fun a b => decide (a.pl ≤ b.pl))
theorem srt_sorted (l : List Ed) : SortedP (srt l) := by
  have := List.pairwise_mergeSort (le := fun a b : Ed => decide (a.pl ≤ b.pl)) (by intro a b c h1 h2; simp at *; omega) (by intro a b; simp; omega) l
  exact this.imp (fun h => by simpa using h)
theorem srt_perm (l : List Ed) : (srt l).Perm l := List.mergeSort_perm l _

/-- The strip from row t down to row y. -/
def stripC (mf : Bool → Bool → Bool) (a b : List Rc) (t y : Int) : List Rc := (cutRun mf t y (grp Ed.pl (srt (sidesAt a b t)))).out

theorem list_cols : ∀ {l m : List Rc} {t h : Int}, cols l = cols m → (∀ r ∈ l, r.y = t ∧ r.b = h) → (∀ r ∈ m, r.y = t ∧ r.b = h) → l = m
  | [], [], _, _, _, _, _ => rfl
  | [], s :: m, _, _, e, _, _ => by simp [cols] at e
  | r :: l, [], _, _, e, _, _ => by simp [cols] at e
  | r :: l, s :: m, t, h, e, h1, h2 => by
    simp only [cols, List.map_cons, List.cons.injEq, Prod.mk.injEq] at e
    have a1 := h1 r (by simp)
    have a2 := h2 s (by simp)
    rw [list_cols (t := t) (h := h) e.2 (fun q hq => h1 q (by simp [hq])) (fun q hq => h2 q (by simp [hq]))]
    congr 1
    obtain ⟨rx, ry, ra, rb⟩ := r
    obtain ⟨sx, sy, sa, sb⟩ := s
    simp at e a1 a2
    simp [e.1.1, e.1.2, a1.1, a1.2, a2.1, a2.2]

theorem strip_unique (mf : Bool → Bool → Bool) (hff : mf false false = false) {a b : List Rc} {t y : Int} {sides : List Ed} (hs : SortedP sides) (hp : sides.Perm (sidesAt a b t)) : (cutRun mf t y (grp Ed.pl sides)).out = stripC mf a b t y := by
  obtain ⟨c1, y1, i1⟩ := cut_out_sem mf hff t y (act a t) (act b t) act_pos act_pos sides hs hp
  obtain ⟨c2, y2, i2⟩ := cut_out_sem mf hff t y (act a t) (act b t) act_pos act_pos (srt (sidesAt a b t)) (srt_sorted _) (srt_perm _)
  exact list_cols (cols_unique c1 c2 (fun x => (i1 x).trans (i2 x).symm)) y1 y2

theorem strict_unique : ∀ {l m : List Int}, l.Pairwise (· < ·) → m.Pairwise (· < ·) → (∀ x, x ∈ l ↔ x ∈ m) → l = m
  | [], [], _, _, _ => rfl
  | [], y :: m, _, _, h => by have := (h y).2 (by simp); simp at this
  | x :: l, [], _, _, h => by have := (h x).1 (by simp); simp at this
  | x :: l, y :: m, hl, hm, h => by
    have h1 := List.pairwise_cons.1 hl
    have h2 := List.pairwise_cons.1 hm
    have e : x = y := by
      rcases List.mem_cons.1 ((h x).1 (by simp)) with e | e
      · exact e
      · rcases List.mem_cons.1 ((h y).2 (by simp)) with e' | e'
        · exact e'.symm
        · have := h2.1 x e; have := h1.1 y e'; omega
    subst e
    congr 1
    refine strict_unique h1.2 h2.2 (fun z => ?_)
    have h0 := h z
    simp only [List.mem_cons] at h0
    constructor
    · intro hz
      rcases h0.1 (.inr hz) with e | e
      · have := h1.1 z hz; omega
      · exact e
    · intro hz
      rcases h0.2 (.inr hz) with e | e
      · have := h2.1 z hz; omega
      · exact e

def keysOf (a b : List Rc) : List Int := (grp Ed.pl (srt (downsL a b))).map (·.1)

theorem mem_keys {d : List Ed} {x : Int} : x ∈ (grp Ed.pl d).map (·.1) ↔ ∃ e ∈ d, e.pl = x := by
  constructor
  · intro h
    obtain ⟨q, hq, rfl⟩ := List.mem_map.1 h
    obtain ⟨e, he, h2⟩ := grp_ne (c := q.1) (g := q.2) hq
    exact ⟨e, grp_mem hq he, h2⟩
  · rintro ⟨e, he, rfl⟩
    rw [← grp_flat Ed.pl d] at he
    obtain ⟨q, hq, he⟩ := List.mem_flatMap.1 he
    exact List.mem_map.2 ⟨q, hq, (grp_keyed (c := q.1) (g := q.2) hq e he).symm⟩

theorem keys_unique {a b : List Rc} {d : List Ed} (hs : SortedP d) (hp : d.Perm (downsL a b)) : (grp Ed.pl d).map (·.1) = keysOf a b := by
  refine strict_unique (grp_keys hs) (grp_keys (srt_sorted _)) (fun x => ?_)
  rw [keysOf, mem_keys, mem_keys]
  constructor
  · rintro ⟨e, he, h⟩; exact ⟨e, (srt_perm _).mem_iff.2 (hp.mem_iff.1 he), h⟩
  · rintro ⟨e, he, h⟩; exact ⟨e, hp.mem_iff.2 ((srt_perm _).mem_iff.1 he), h⟩

/-- The strips between places, one behind the other. -/
def stripsK (mf : Bool → Bool → Bool) (a b : List Rc) : List Int → List (List Rc)
  | k :: k' :: ks => (if stripC mf a b k k' = [] then [] else [stripC mf a b k k']) ++ stripsK mf a b (k' :: ks)
  | _ => []

theorem stripsK_snoc (mf : Bool → Bool → Bool) (a b : List Rc) (p k : Int) : ∀ ks : List Int, stripsK mf a b (ks ++ [p, k]) = stripsK mf a b (ks ++ [p]) ++ (if stripC mf a b p k = [] then [] else [stripC mf a b p k])
  | [] => by simp [stripsK]
  | [x] => by simp [stripsK]
  | x :: y :: ks => by
    have := stripsK_snoc mf a b p k (y :: ks)
    simp only [List.cons_append, stripsK] at this ⊢
    rw [this, List.append_assoc]

def stripsL (mf : Bool → Bool → Bool) (a b : List Rc) : List (List Rc) := stripsK mf a b (keysOf a b)

end Go.Proofs.YtajoipmchgabfaaGreat
