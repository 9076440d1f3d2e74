/- Heaps, move by move: what is done to a list hangs on its keys alone (plain). Nothing here speaks of a program. -/
import Derived.Test.YtpdfkgdgpofhbaaM89
namespace Go.Proofs.Ytpdfkgdgpofhbaa

section
variable {α β : Type} [Inhabited α] [Inhabited β]

def gk (E : List (α × Nat)) (k : Nat) : Nat := (E.getD k default).2
def gs (E : List (α × Nat)) (i j : Nat) : List (α × Nat) := (E.set i (E.getD j default)).set j (E.getD i default)
theorem gs_len (E : List (α × Nat)) (i j : Nat) : (gs E i j).length = E.length := by simp [gs]

/-- The place j is sifted up. -/
inductive UpR : List (α × Nat) → Nat → List (α × Nat) → Prop
  | stop {E : List (α × Nat)} {j : Nat} (h : j = 0 ∨ ¬ gk E j < gk E ((j - 1) / 2)) : UpR E j E
  | step {E R : List (α × Nat)} {j : Nat} (h0 : 0 < j) (h : gk E j < gk E ((j - 1) / 2)) (hr : UpR (gs E ((j - 1) / 2) j) ((j - 1) / 2) R) : UpR E j R
/-- The lesser one of those below i. -/
def lessr (m : Nat) (E : List (α × Nat)) (i : Nat) : Nat := if 2 * i + 2 < m ∧ gk E (2 * i + 2) < gk E (2 * i + 1) then 2 * i + 2 else 2 * i + 1
/-- The place i of the first m is sifted down. -/
inductive DnR (m : Nat) : List (α × Nat) → Nat → List (α × Nat) → Prop
  | stop {E : List (α × Nat)} {i : Nat} (h : m ≤ 2 * i + 1 ∨ ¬ gk E (lessr m E i) < gk E i) : DnR m E i E
  | step {E R : List (α × Nat)} {i : Nat} (h0 : 2 * i + 1 < m) (h : gk E (lessr m E i) < gk E i) (hr : DnR m (gs E i (lessr m E i)) (lessr m E i) R) : DnR m E i R
def PushR (F : List (α × Nat)) (x : α × Nat) (G : List (α × Nat)) : Prop := UpR (F ++ [x]) F.length G
def PopR (F : List (α × Nat)) (x : α × Nat) (G : List (α × Nat)) : Prop := F[0]? = some x ∧ ∃ D, DnR (F.length - 1) (gs F 0 (F.length - 1)) 0 D ∧ G = D.take (F.length - 1)
inductive PutR : List (α × Nat) → List (α × Nat) → List (α × Nat) → Prop
  | nil {F : List (α × Nat)} : PutR F [] F
  | cons {F G H l : List (α × Nat)} {x : α × Nat} (h : PushR F x G) (hr : PutR G l H) : PutR F (x :: l) H
inductive TakeR : List (α × Nat) → List (α × Nat) → List (α × Nat) → Prop
  | nil {F : List (α × Nat)} : TakeR F [] F
  | cons {F G E P : List (α × Nat)} {x : α × Nat} (h0 : 0 < F.length) (h : PopR F x G) (hr : TakeR G P E) : TakeR F (x :: P) E
/-- All are put, and taken two by two. -/
def OrdR (X P E : List (α × Nat)) : Prop := ∃ F, PutR [] X F ∧ TakeR F P E ∧ E.length ≤ 1 ∧ ∃ k, P.length = 2 * k

theorem UpR.det {E R R' : List (α × Nat)} {j : Nat} (h : UpR E j R) (k : UpR E j R') : R = R' := by
  induction h with
  | stop h =>
    cases k with
    | stop => rfl
    | step h0 h1 => exact absurd h1 (h.resolve_left (by omega))
  | step h0 h1 hr ih =>
    cases k with
    | stop h => exact absurd h1 (h.resolve_left (by omega))
    | step _ _ hr' => exact ih hr'
theorem DnR.det {m : Nat} {E R R' : List (α × Nat)} {i : Nat} (h : DnR m E i R) (k : DnR m E i R') : R = R' := by
  induction h with
  | stop h =>
    cases k with
    | stop => rfl
    | step h0 h1 => exact absurd h1 (h.resolve_left (by omega))
  | step h0 h1 hr ih =>
    cases k with
    | stop h => exact absurd h1 (h.resolve_left (by omega))
    | step _ _ hr' => exact ih hr'
theorem UpR.len {E R : List (α × Nat)} {j : Nat} (h : UpR E j R) : R.length = E.length := by
  induction h with
  | stop => rfl
  | step _ _ _ ih => rw [ih, gs_len]
theorem DnR.len {m : Nat} {E R : List (α × Nat)} {i : Nat} (h : DnR m E i R) : R.length = E.length := by
  induction h with
  | stop => rfl
  | step _ _ _ ih => rw [ih, gs_len]
theorem PopR.det {F G G' : List (α × Nat)} {x x' : α × Nat} (h : PopR F x G) (k : PopR F x' G') : x = x' ∧ G = G' := by
  obtain ⟨h1, D, h2, rfl⟩ := h
  obtain ⟨k1, D', k2, rfl⟩ := k
  rw [h1] at k1
  exact ⟨by injection k1, by rw [h2.det k2]⟩
theorem PopR.len {F G : List (α × Nat)} {x : α × Nat} (h : PopR F x G) : G.length = F.length - 1 := by
  obtain ⟨h1, D, h2, rfl⟩ := h
  rw [List.length_take, h2.len, gs_len]; omega
theorem PutR.det {F l G G' : List (α × Nat)} (h : PutR F l G) (k : PutR F l G') : G = G' := by
  induction h with
  | nil => cases k; rfl
  | cons h hr ih =>
    cases k with
    | cons k kr =>
      obtain rfl := UpR.det h k
      exact ih kr
theorem PutR.len {F l G : List (α × Nat)} (h : PutR F l G) : G.length = F.length + l.length := by
  induction h with
  | nil => rfl
  | cons h hr ih =>
    have := UpR.len h
    rw [ih, this]; simp; omega
theorem PutR.append {F l G r H : List (α × Nat)} (h : PutR F l G) (k : PutR G r H) : PutR F (l ++ r) H := by
  induction h with
  | nil => exact k
  | cons h hr ih => exact .cons h (ih k)
theorem TakeR.len {F P E : List (α × Nat)} (h : TakeR F P E) : F.length = P.length + E.length := by
  induction h with
  | nil => simp
  | cons h0 h hr ih =>
    have := h.len
    simp only [List.length_cons]; omega
theorem TakeR.det {F P E P' E' : List (α × Nat)} (h : TakeR F P E) (k : TakeR F P' E') (hl : P.length = P'.length) : P = P' ∧ E = E' := by
  induction h generalizing P' E' with
  | nil =>
    cases k with
    | nil => exact ⟨rfl, rfl⟩
    | cons => simp at hl
  | cons h0 h hr ih =>
    cases k with
    | nil => simp at hl
    | cons _ k kr =>
      obtain ⟨rfl, rfl⟩ := h.det k
      obtain ⟨rfl, rfl⟩ := ih kr (by simpa using hl)
      exact ⟨rfl, rfl⟩
theorem TakeR.snoc {F P E G : List (α × Nat)} {x : α × Nat} (h : TakeR F P E) (h0 : 0 < E.length) (k : PopR E x G) : TakeR F (P ++ [x]) G := by
  induction h with
  | nil => exact .cons h0 k .nil
  | cons h1 h hr ih => exact .cons h1 h (ih h0 k)
theorem OrdR.det {X P E P' E' : List (α × Nat)} (h : OrdR X P E) (k : OrdR X P' E') : P = P' ∧ E = E' := by
  obtain ⟨F, h1, h2, h3, a, h4⟩ := h
  obtain ⟨F', k1, k2, k3, b, k4⟩ := k
  obtain rfl := h1.det k1
  have := h2.len
  have := k2.len
  exact h2.det k2 (by omega)

/-- Labels turned, keys kept. -/
def rl (f : α → β) (e : α × Nat) : β × Nat := (f e.1, e.2)
variable {f : α → β} (hf : f default = default)
include hf
theorem gd_map (E : List (α × Nat)) (k : Nat) : (E.map (rl f)).getD k default = rl f (E.getD k default) := by
  rw [List.getD_eq_getElem?_getD, List.getElem?_map, List.getD_eq_getElem?_getD]
  cases E[k]? with
  | none =>
    show ((default : β), (0 : Nat)) = (f (default : α), 0)
    rw [hf]
  | some x => rfl
theorem gk_map (E : List (α × Nat)) (k : Nat) : gk (E.map (rl f)) k = gk E k := by unfold gk; rw [gd_map hf]; rfl
theorem gs_map (E : List (α × Nat)) (i j : Nat) : gs (E.map (rl f)) i j = (gs E i j).map (rl f) := by
  unfold gs; rw [gd_map hf, gd_map hf, ← List.map_set, ← List.map_set]
theorem lessr_map (m : Nat) (E : List (α × Nat)) (i : Nat) : lessr m (E.map (rl f)) i = lessr m E i := by unfold lessr; rw [gk_map hf, gk_map hf]
theorem UpR.map {E R : List (α × Nat)} {j : Nat} (h : UpR E j R) : UpR (E.map (rl f)) j (R.map (rl f)) := by
  induction h with
  | stop h => exact .stop (by rw [gk_map hf, gk_map hf]; exact h)
  | step h0 h hr ih => exact .step h0 (by rw [gk_map hf, gk_map hf]; exact h) (by rw [gs_map hf]; exact ih)
theorem DnR.map {m : Nat} {E R : List (α × Nat)} {i : Nat} (h : DnR m E i R) : DnR m (E.map (rl f)) i (R.map (rl f)) := by
  induction h with
  | stop h => exact .stop (by rw [lessr_map hf, gk_map hf, gk_map hf]; exact h)
  | step h0 h hr ih => exact .step h0 (by rw [lessr_map hf, gk_map hf, gk_map hf]; exact h) (by rw [lessr_map hf, gs_map hf]; exact ih)
theorem UpR.lift {E : List (α × Nat)} {Y R : List (β × Nat)} {j : Nat} (h : UpR Y j R) : Y = E.map (rl f) → ∃ R', UpR E j R' ∧ R = R'.map (rl f) := by
  induction h generalizing E with
  | stop h =>
    rintro rfl
    exact ⟨E, .stop (by rw [gk_map hf, gk_map hf] at h; exact h), rfl⟩
  | step h0 h hr ih =>
    rintro rfl
    obtain ⟨R', r1, r2⟩ := ih (gs_map hf _ _ _)
    exact ⟨R', .step h0 (by rw [gk_map hf, gk_map hf] at h; exact h) r1, r2⟩
theorem DnR.lift {m : Nat} {E : List (α × Nat)} {Y R : List (β × Nat)} {i : Nat} (h : DnR m Y i R) : Y = E.map (rl f) → ∃ R', DnR m E i R' ∧ R = R'.map (rl f) := by
  induction h generalizing E with
  | stop h =>
    rintro rfl
    exact ⟨E, .stop (by rw [lessr_map hf, gk_map hf, gk_map hf] at h; exact h), rfl⟩
  | step h0 h hr ih =>
    rintro rfl
    rw [lessr_map hf] at hr ih
    obtain ⟨R', r1, r2⟩ := ih (gs_map hf _ _ _)
    exact ⟨R', .step h0 (by rw [lessr_map hf, gk_map hf, gk_map hf] at h; exact h) r1, r2⟩
theorem PopR.map {F G : List (α × Nat)} {x : α × Nat} (h : PopR F x G) : PopR (F.map (rl f)) (rl f x) (G.map (rl f)) := by
  obtain ⟨h1, D, h2, rfl⟩ := h
  refine ⟨by rw [List.getElem?_map, h1]; rfl, D.map (rl f), ?_, ?_⟩
  · rw [List.length_map, gs_map hf]; exact h2.map hf
  · rw [List.length_map, List.map_take]
theorem PopR.lift {F : List (α × Nat)} {G : List (β × Nat)} {y : β × Nat} (h : PopR (F.map (rl f)) y G) : ∃ x G', PopR F x G' ∧ y = rl f x ∧ G = G'.map (rl f) := by
  obtain ⟨h1, D, h2, rfl⟩ := h
  rw [List.length_map] at h2 ⊢
  obtain ⟨D', d1, rfl⟩ := h2.lift hf (gs_map hf _ _ _)
  rw [List.getElem?_map] at h1
  cases hx : F[0]? with
  | none => rw [hx] at h1; cases h1
  | some x =>
    rw [hx] at h1
    injection h1 with h1
    exact ⟨x, _, ⟨hx, D', d1, rfl⟩, h1.symm, (List.map_take ..).symm⟩
theorem PutR.map {F l G : List (α × Nat)} (h : PutR F l G) : PutR (F.map (rl f)) (l.map (rl f)) (G.map (rl f)) := by
  induction h with
  | nil => exact .nil
  | cons h hr ih =>
    refine .cons ?_ ih
    have := UpR.map hf h
    rw [List.map_append] at this
    unfold PushR
    rw [List.length_map]; exact this
theorem PutR.lift {F : List (α × Nat)} {l : List (α × Nat)} {Y Z G : List (β × Nat)} (h : PutR Y Z G) : Y = F.map (rl f) → Z = l.map (rl f) → ∃ G', PutR F l G' ∧ G = G'.map (rl f) := by
  induction h generalizing F l with
  | nil =>
    rintro rfl e
    cases l with
    | nil => exact ⟨F, .nil, rfl⟩
    | cons => cases e
  | cons h hr ih =>
    rintro rfl e
    cases l with
    | nil => cases e
    | cons x l =>
      injection e with e1 e2
      subst e1
      obtain ⟨G', g1, rfl⟩ := UpR.lift (E := F ++ [x]) hf h (by rw [List.map_append]; rfl)
      rw [List.length_map] at g1
      obtain ⟨H', h1, h2⟩ := ih rfl e2
      exact ⟨H', .cons g1 h1, h2⟩
theorem TakeR.map {F P E : List (α × Nat)} (h : TakeR F P E) : TakeR (F.map (rl f)) (P.map (rl f)) (E.map (rl f)) := by
  induction h with
  | nil => exact .nil
  | cons h0 h hr ih => exact .cons (by rw [List.length_map]; exact h0) (h.map hf) ih
theorem TakeR.lift {F : List (α × Nat)} {Y P E : List (β × Nat)} (h : TakeR Y P E) : Y = F.map (rl f) → ∃ P' E', TakeR F P' E' ∧ P = P'.map (rl f) ∧ E = E'.map (rl f) := by
  induction h generalizing F with
  | nil => rintro rfl; exact ⟨[], F, .nil, rfl, rfl⟩
  | cons h0 h hr ih =>
    rintro rfl
    obtain ⟨x, G', g1, rfl, rfl⟩ := h.lift hf
    obtain ⟨P', E', p1, rfl, rfl⟩ := ih rfl
    exact ⟨x :: P', E', .cons (by rw [List.length_map] at h0; exact h0) g1 p1, rfl, rfl⟩
theorem OrdR.map {X P E : List (α × Nat)} (h : OrdR X P E) : OrdR (X.map (rl f)) (P.map (rl f)) (E.map (rl f)) := by
  obtain ⟨F, h1, h2, h3, k, h4⟩ := h
  exact ⟨F.map (rl f), h1.map hf, h2.map hf, by rw [List.length_map]; exact h3, k, by rw [List.length_map]; exact h4⟩
theorem OrdR.lift {X : List (α × Nat)} {P E : List (β × Nat)} (h : OrdR (X.map (rl f)) P E) : ∃ P' E', OrdR X P' E' ∧ P = P'.map (rl f) ∧ E = E'.map (rl f) := by
  obtain ⟨F, h1, h2, h3, k, h4⟩ := h
  obtain ⟨F', f1, rfl⟩ := h1.lift (F := []) hf rfl rfl
  obtain ⟨P', E', p1, rfl, rfl⟩ := h2.lift hf rfl
  rw [List.length_map] at h3 h4
  exact ⟨P', E', ⟨F', f1, p1, h3, k, h4⟩, rfl, rfl⟩
end

end Go.Proofs.Ytpdfkgdgpofhbaa
