/- Several texts in one, each with its own head. -/
import Derived.Test.YtpddkhhdleknnaaZ35
import Derived.Test.YtpddkhhdleknnaaZ4
import Derived.StillTail
/- Plain facts: does a column join the one before it; bounds; the last step of the document's rows. Nothing here walks. -/
namespace Go.Proofs.Ytpddkhhdleknnaa
open Go.RowKit

/-- Does a column at x join the last one of a band? -/
def joinB (band : List Rc) (x : Int) : Bool := match band.getLast? with
  | some r => decide (r.x + r.a = x)
  | none => false
theorem joinB_nil (x : Int) : joinB [] x = false := rfl
theorem joinB_snoc (l : List Rc) (r : Rc) (x : Int) : joinB (l ++ [r]) x = decide (r.x + r.a = x) := by simp [joinB]
theorem nil_or_snoc {α : Type} (l : List α) : l = [] ∨ ∃ l' r, l = l' ++ [r] := by
  rcases List.eq_nil_or_concat l with h | ⟨l', r, h⟩
  · exact .inl h
  · exact .inr ⟨l', r, by rw [h]; simp⟩
theorem colPut_not {band : List Rc} {x : Int} (h : joinB band x = false) (y hh x' : Int) : colPut y hh x x' band = band ++ [⟨x, y, x' - x, hh⟩] := by
  rcases nil_or_snoc band with rfl | ⟨l, r, rfl⟩
  · rfl
  · rw [joinB_snoc] at h
    rw [colPut_snoc, if_neg (by simpa using h)]
    simp
theorem colPut_join {l : List Rc} {r : Rc} {x : Int} (h : joinB (l ++ [r]) x = true) (y hh x' : Int) : colPut y hh x x' (l ++ [r]) = l ++ [⟨r.x, r.y, x' - r.x, r.b⟩] := by
  rw [joinB_snoc] at h
  rw [colPut_snoc, if_pos (by simpa using h)]
theorem joinB_some {band : List Rc} {x : Int} (h : joinB band x = true) : ∃ l r, band = l ++ [r] ∧ r.x + r.a = x := by
  rcases nil_or_snoc band with rfl | ⟨l, r, rfl⟩
  · cases h
  · rw [joinB_snoc] at h
    exact ⟨l, r, rfl, by simpa using h⟩

/-- Bounds across, and down. -/
def XB (r : Rc) : Prop := -1048576 ≤ r.x ∧ 0 ≤ r.a ∧ r.x + r.a ≤ 1048576
def YB (r : Rc) : Prop := -1048576 ≤ r.y ∧ r.y ≤ 1048576 ∧ -1048576 ≤ r.y + r.b ∧ r.y + r.b ≤ 1048576

theorem flatR_set2 (l : List Rc) (k : Nat) (a : Int) (h : k < l.length) : (flatR l).set (k * 4 + 2) (.int .i64 a) = flatR (l.set k ⟨l[k].x, l[k].y, a, l[k].b⟩) := by
  induction l generalizing k with
  | nil => simp at h
  | cons r l ih =>
    have h4 : (encR r).length = 4 := rfl
    cases k with
    | zero => simp [flatR, encR]
    | succ k =>
      have := ih k (by simpa using h)
      simp only [flatR, List.flatMap_cons, List.set_cons_succ] at this ⊢
      rw [List.set_append_right _ _ (by rw [h4]; omega), h4, show (k + 1) * 4 + 2 - 4 = k * 4 + 2 by omega, this]
      simp

theorem flatR_last (l : List Rc) (r : Rc) (a : Int) : (flatR (l ++ [r])).set (l.length * 4 + 2) (.int .i64 a) = flatR (l ++ [⟨r.x, r.y, a, r.b⟩]) := by
  have h : l.length < (l ++ [r]).length := by simp
  rw [flatR_set2 _ _ _ h]
  congr 1
  rw [List.set_append_right _ _ (Nat.le_refl _)]
  simp

theorem flatR_snoc (l : List Rc) (r : Rc) : flatR (l ++ [r]) = flatR l ++ encR r := by simp [flatR]
theorem flatR_at_last (l : List Rc) (r : Rc) (j : Nat) : (flatR (l ++ [r]))[l.length * 4 + j]? = (encR r)[j]? := by
  rw [flatR_snoc, List.getElem?_append_right (by rw [flatR_len]; omega), flatR_len, show l.length * 4 + j - l.length * 4 = j by omega]

theorem docStep_go {s : List Rc × List Rc} {st : List Rc} {y : Int} (h : goesD s.2 st y = true) (y' : Int) : docStep s st y y' = (s.1, s.2.map (tall y')) := by unfold docStep; rw [if_pos h]
theorem docStep_not {s : List Rc × List Rc} {st : List Rc} {y : Int} (h : goesD s.2 st y = false) (y' : Int) : docStep s st y y' = (s.1 ++ s.2, st) := by unfold docStep; rw [if_neg (by rw [h]; simp)]

theorem tall_YB {y' : Int} {r : Rc} (h : YB r) (hy : -1048576 ≤ y' ∧ y' ≤ 1048576) : YB (tall y' r) := by
  unfold YB tall at *
  simp only
  omega

/-- One column more, within the bounds. -/
theorem colPut_XB {band : List Rc} {x x' : Int} (h : ∀ r ∈ band, XB r) (hx : -1048576 ≤ x) (hxx : x ≤ x') (hx' : x' ≤ 1048576) (y hh : Int) : ∀ r ∈ colPut y hh x x' band, XB r := by
  cases hj : joinB band x with
  | true =>
    obtain ⟨l, r, rfl, e⟩ := joinB_some hj
    rw [colPut_join hj]
    intro q hq
    rcases List.mem_append.1 hq with hq | hq
    · exact h q (by simp [hq])
    · have h1 := h r (by simp)
      rcases List.mem_singleton.1 hq with rfl
      unfold XB at *
      simp only
      omega
  | false =>
    rw [colPut_not hj]
    intro q hq
    rcases List.mem_append.1 hq with hq | hq
    · exact h q hq
    · rcases List.mem_singleton.1 hq with rfl
      unfold XB
      simp only
      omega
/-- One column more: of one height with the others. -/
theorem colPut_Y {band : List Rc} {x x' y hh : Int} (h : ∀ r ∈ band, r.y = y ∧ r.b = hh) : ∀ r ∈ colPut y hh x x' band, r.y = y ∧ r.b = hh := by
  cases hj : joinB band x with
  | true =>
    obtain ⟨l, r, rfl, e⟩ := joinB_some hj
    rw [colPut_join hj]
    intro q hq
    rcases List.mem_append.1 hq with hq | hq
    · exact h q (by simp [hq])
    · have h1 := h r (by simp)
      rcases List.mem_singleton.1 hq with rfl
      exact h1
  | false =>
    rw [colPut_not hj]
    intro q hq
    rcases List.mem_append.1 hq with hq | hq
    · exact h q hq
    · rcases List.mem_singleton.1 hq with rfl
      exact ⟨rfl, rfl⟩

end Go.Proofs.Ytpddkhhdleknnaa

/- Regions that draw their order, whose head only reads and calls what keeps all that there is, and makes new blocks, and whose tail stores: one walk of the head in the order of the text serves every order. Nothing here speaks of one program. -/
namespace Go.Proofs.Ytpddkhhdleknnaa
open Go.RowKit

section
variable {P : Program} {ops : Array Oper} {W : World} {md : Region.Mode}

/-- A value in the very world, or a call that answers it and keeps all that there is. -/
def mkUpon (P : Program) (w : World) (v : Value) : Result Next → Prop
  | .ok (.value u) w' => w' = w ∧ u = v
  | .ok .skip w' => w' = w ∧ v = undef
  | .ok (.enter f args) w' => w' = w ∧ Calls P f args w (fun e w'' => e = .returned v ∧ Below w.heap.size w w'')
  | _ => False

attribute [go_sem] mkUpon

def Yields (P : Program) (ops : Array Oper) (W : World) (o : Oper) (v : Value) (a : Act) : Prop :=
  (Region.wanted o (yielded ops a.tmps) = true ∧ ∀ n : After W, mkUpon P n.world v ((execOp a.eval o).run P n.world)) ∨ (Region.wanted o (yielded ops a.tmps) = false ∧ v = undef)

theorem Yields.of_same {o : Oper} {v : Value} {a a' : Act} (hy : Yields P ops W o v a) (he : execOp a'.eval o = execOp a.eval o)
    (hw : Region.wanted o (yielded ops a'.tmps) = Region.wanted o (yielded ops a.tmps)) : Yields P ops W o v a' := by
  unfold Yields at *
  rw [he, hw]
  exact hy

/-- The head's reading and calling operations, in the order of the text. -/
def Lq (P : Program) (ops : Array Oper) (W : World) (E : Act → Prop) : List Oper → Act → Prop
  | [], a => E a
  | o :: rest, a => ∃ v, Yields P ops W o v a ∧ Lq P ops W E rest (a.put o.dst v)

theorem Lq_nil {E : Act → Prop} {a : Act} (h : E a) : Lq P ops W E [] a := h
theorem Lq_step {E : Act → Prop} {a : Act} {o : Oper} {rest : List Oper}
    (h : ∀ K : Act → Prop, (∀ a, Lq P ops W E rest a → K a) → if Region.wanted o (yielded ops a.tmps) then ∃ v, (∀ n : After W, mkUpon P n.world v ((execOp a.eval o).run P n.world)) ∧ K (a.put o.dst v) else K (a.put o.dst undef)) : Lq P ops W E (o :: rest) a := by
  have h1 := h _ (fun _ h => h)
  by_cases hw : Region.wanted o (yielded ops a.tmps) = true
  · rw [if_pos hw] at h1
    obtain ⟨v, h2, h3⟩ := h1
    exact ⟨v, Or.inl ⟨hw, h2⟩, h3⟩
  · rw [if_neg hw] at h1
    exact ⟨undef, Or.inr ⟨by simpa using hw, rfl⟩, h1⟩

theorem Lq.mono {E E' : Act → Prop} (hE : ∀ a, E a → E' a) : ∀ (l : List Oper) (a : Act), Lq P ops W E l a → Lq P ops W E' l a
  | [], a, h => hE a h
  | _ :: l, _, ⟨v, hy, h⟩ => ⟨v, hy, Lq.mono hE l _ h⟩

/-- One of them may come up ahead of others that are apart from it. -/
theorem Lq.pick {E : Act → Prop} (j : Oper) (post : List Oper) (hj : ∀ cs b, j.op ≠ .select cs b) : ∀ (pre : List Oper) (a : Act), (∀ p ∈ pre, p.apart ops j = true ∧ ∀ cs b, p.op ≠ .select cs b) → Lq P ops W E (pre ++ j :: post) a →
    ∃ v, Yields P ops W j v a ∧ Lq P ops W E (pre ++ post) (a.put j.dst v)
  | [], _, _, h => h
  | i :: pre, a, hap, h => by
    obtain ⟨vi, hyi, h'⟩ := h
    obtain ⟨v, hy, hL⟩ := Lq.pick j post hj pre (a.put i.dst vi) (fun p hp => hap p (by simp [hp])) h'
    obtain ⟨hi, hsi⟩ := hap i (by simp)
    obtain ⟨h1, h2, h3⟩ := Oper.apart_spec hi
    refine ⟨v, hy.of_same (execOp_put j hj a i.dst vi h1).symm (wanted_put j a i.dst vi h1).symm, vi, hyi.of_same (execOp_put i hsi a j.dst v h3) (wanted_put i a j.dst v h3), ?_⟩
    rw [← Act.put_comm a vi v h2]
    exact hL

/-- A slot that none of them looks at may be filled ahead of them. -/
theorem Lq.put {E E' : Act → Prop} (j : Oper) (x : Value) (hE : ∀ a, E a → E' (a.put j.dst x)) : ∀ (l : List Oper) (a : Act), (∀ p ∈ l, p.apart ops j = true ∧ ∀ cs b, p.op ≠ .select cs b) → Lq P ops W E l a → Lq P ops W E' l (a.put j.dst x)
  | [], a, _, h => hE a h
  | i :: l, a, hap, h => by
    obtain ⟨vi, hyi, h'⟩ := h
    obtain ⟨hi, hsi⟩ := hap i (by simp)
    obtain ⟨h1, h2, h3⟩ := Oper.apart_spec hi
    refine ⟨vi, hyi.of_same (execOp_put i hsi a j.dst x h3) (wanted_put i a j.dst x h3), ?_⟩
    rw [← Act.put_comm a vi x h2]
    exact Lq.put j x hE l (a.put i.dst vi) (fun p hp => hap p (by simp [hp])) h'

def updB (β : Nat → Nat) (i B : Nat) : Nat → Nat := fun k => if k = i then B else β k
theorem updB_same (β : Nat → Nat) (i B : Nat) : updB β i B i = B := by simp [updB]
theorem updB_ne (β : Nat → Nat) {i k : Nat} (B : Nat) (h : k ≠ i) : updB β i B k = β k := by simp [updB, h]
theorem updB_comm (β : Nat → Nat) {i j : Nat} (h : i ≠ j) (B C : Nat) : updB (updB β i B) j C = updB (updB β j C) i B := by
  funext k
  by_cases h1 : k = i
  · subst h1
    rw [updB_ne _ _ h, updB_same, updB_same]
  · by_cases h2 : k = j
    · subst h2
      rw [updB_same, updB_ne _ _ h1, updB_same]
    · rw [updB_ne _ _ h2, updB_ne _ _ h1, updB_ne _ _ h1, updB_ne _ _ h2]

/-- The head's new blocks: wherever they come to lie. -/
def La (W : World) (F : (Nat → Nat) → Act → Prop) : List (Nat × Oper) → (Nat → Nat) → Act → Prop
  | [], β, a => F β a
  | o :: rest, β, a => ∀ B, W.heap.size ≤ B → La W F rest (updB β o.1 B) (a.put o.2.dst (.pointer (some ⟨B, 0, none⟩)))

theorem La.pick {F : (Nat → Nat) → Act → Prop} (j : Nat × Oper) (post : List (Nat × Oper)) : ∀ (pre : List (Nat × Oper)) (β : Nat → Nat) (a : Act), (∀ p ∈ pre, p.1 ≠ j.1 ∧ ∀ d, p.2.dst = some d → j.2.dst ≠ some d) → La W F (pre ++ j :: post) β a →
    ∀ B, W.heap.size ≤ B → La W F (pre ++ post) (updB β j.1 B) (a.put j.2.dst (.pointer (some ⟨B, 0, none⟩)))
  | [], _, _, _, h => h
  | i :: pre, β, a, hap, h => fun B hB Bi hBi => by
    have h2 := La.pick j post pre (updB β i.1 Bi) (a.put i.2.dst (.pointer (some ⟨Bi, 0, none⟩))) (fun p hp => hap p (by simp [hp])) (h Bi hBi) B hB
    have hi := hap i (by simp)
    rw [updB_comm _ hi.1, Act.put_comm a _ _ hi.2] at h2
    exact h2

theorem not_waits {i j : Nat} {listed : Array Bool} (hj : j ∈ Region.ready md ops listed) (hi : listed.getD i true = false) : Region.waitsFor md ops j i = false := by
  cases h : Region.waitsFor md ops j i
  · rfl
  · obtain ⟨oj, hoj, e, he, hb, hon⟩ := Region.waitsFor_spec h
    obtain ⟨_, o, ho, hall⟩ := mem_ready.1 hj
    have : oj = o := Option.some.inj (hoj.symm.trans ho)
    subst this
    have h2 := hall e he hb
    rw [hon, getD_both hi] at h2
    cases h2

theorem split_at {α : Type} {x : α} {l : List α} (h : x ∈ l) : ∃ pre post, l = pre ++ x :: post := List.append_of_mem h

end
end Go.Proofs.Ytpddkhhdleknnaa
