/- Regions that draw their order, whose head only reads and calls what keeps all that there is, and makes new blocks, and whose tail stores: one walk of the head in the order of the text serves every order. Nothing here speaks of one program. -/
import Derived.Test.YtonhcdhlinlncaaAfter
import Derived.StillTail
namespace Go.Proofs.Ytonhcdhlinlncaa
open Go.RowKit

section
variable {P : Program} {ops : Array Oper} {W : World} {md : Region.Mode}

/-- A value in the very world, or a call that answers it and keeps all that there is. -/
def mkUpon (P : Program) (w : World) (v : Value) : Result Next → Prop
  | .ok (.value u) w' => w' = w ∧ u = v
  | .ok .skip w' => w' = w ∧ v = undef
  | .ok (.enter f args) w' => w' = w ∧ Calls P f args w (fun e w'' => e = .returned v ∧ Below w.heap.size w w'')
  | _ => False

attribute [go_sem] mkUpon

def Yields (P : Program) (ops : Array Oper) (W : World) (o : Oper) (v : Value) (a : Act) : Prop :=
  (Region.wanted o (yielded ops a.tmps) = true ∧ ∀ n : After W, mkUpon P n.world v ((execOp a.eval o).run P n.world)) ∨ (Region.wanted o (yielded ops a.tmps) = false ∧ v = undef)

theorem Yields.of_same {o : Oper} {v : Value} {a a' : Act} (hy : Yields P ops W o v a) (he : execOp a'.eval o = execOp a.eval o)
    (hw : Region.wanted o (yielded ops a'.tmps) = Region.wanted o (yielded ops a.tmps)) : Yields P ops W o v a' := by
  unfold Yields at *
  rw [he, hw]
  exact hy

/-- The head's reading and calling operations, in the order of the text. -/
def Lq (P : Program) (ops : Array Oper) (W : World) (E : Act → Prop) : List Oper → Act → Prop
  | [], a => E a
  | o :: rest, a => ∃ v, Yields P ops W o v a ∧ Lq P ops W E rest (a.put o.dst v)

theorem Lq_nil {E : Act → Prop} {a : Act} (h : E a) : Lq P ops W E [] a := h
theorem Lq_step {E : Act → Prop} {a : Act} {o : Oper} {rest : List Oper}
    (h : ∀ K : Act → Prop, (∀ a, Lq P ops W E rest a → K a) → if Region.wanted o (yielded ops a.tmps) then ∃ v, (∀ n : After W, mkUpon P n.world v ((execOp a.eval o).run P n.world)) ∧ K (a.put o.dst v) else K (a.put o.dst undef)) : Lq P ops W E (o :: rest) a := by
  have h1 := h _ (fun _ h => h)
  by_cases hw : Region.wanted o (yielded ops a.tmps) = true
  · rw [if_pos hw] at h1
    obtain ⟨v, h2, h3⟩ := h1
    exact ⟨v, Or.inl ⟨hw, h2⟩, h3⟩
  · rw [if_neg hw] at h1
    exact ⟨undef, Or.inr ⟨by simpa using hw, rfl⟩, h1⟩

theorem Lq.mono {E E' : Act → Prop} (hE : ∀ a, E a → E' a) : ∀ (l : List Oper) (a : Act), Lq P ops W E l a → Lq P ops W E' l a
  | [], a, h => hE a h
  | _ :: l, _, ⟨v, hy, h⟩ => ⟨v, hy, Lq.mono hE l _ h⟩

/-- One of them may come up ahead of others that are apart from it. -/
theorem Lq.pick {E : Act → Prop} (j : Oper) (post : List Oper) (hj : ∀ cs b, j.op ≠ .select cs b) : ∀ (pre : List Oper) (a : Act), (∀ p ∈ pre, p.apart ops j = true ∧ ∀ cs b, p.op ≠ .select cs b) → Lq P ops W E (pre ++ j :: post) a →
    ∃ v, Yields P ops W j v a ∧ Lq P ops W E (pre ++ post) (a.put j.dst v)
  | [], _, _, h => h
  | i :: pre, a, hap, h => by
    obtain ⟨vi, hyi, h'⟩ := h
    obtain ⟨v, hy, hL⟩ := Lq.pick j post hj pre (a.put i.dst vi) (fun p hp => hap p (by simp [hp])) h'
    obtain ⟨hi, hsi⟩ := hap i (by simp)
    obtain ⟨h1, h2, h3⟩ := Oper.apart_spec hi
    refine ⟨v, hy.of_same (execOp_put j hj a i.dst vi h1).symm (wanted_put j a i.dst vi h1).symm, vi, hyi.of_same (execOp_put i hsi a j.dst v h3) (wanted_put i a j.dst v h3), ?_⟩
    rw [← Act.put_comm a vi v h2]
    exact hL

/-- A slot that none of them looks at may be filled ahead of them. -/
theorem Lq.put {E E' : Act → Prop} (j : Oper) (x : Value) (hE : ∀ a, E a → E' (a.put j.dst x)) : ∀ (l : List Oper) (a : Act), (∀ p ∈ l, p.apart ops j = true ∧ ∀ cs b, p.op ≠ .select cs b) → Lq P ops W E l a → Lq P ops W E' l (a.put j.dst x)
  | [], a, _, h => hE a h
  | i :: l, a, hap, h => by
    obtain ⟨vi, hyi, h'⟩ := h
    obtain ⟨hi, hsi⟩ := hap i (by simp)
    obtain ⟨h1, h2, h3⟩ := Oper.apart_spec hi
    refine ⟨vi, hyi.of_same (execOp_put i hsi a j.dst x h3) (wanted_put i a j.dst x h3), ?_⟩
    rw [← Act.put_comm a vi x h2]
    exact Lq.put j x hE l (a.put i.dst vi) (fun p hp => hap p (by simp [hp])) h'

def updB (β : Nat → Nat) (i B : Nat) : Nat → Nat := fun k => if k = i then B else β k
theorem updB_same (β : Nat → Nat) (i B : Nat) : updB β i B i = B := by simp [updB]
theorem updB_ne (β : Nat → Nat) {i k : Nat} (B : Nat) (h : k ≠ i) : updB β i B k = β k := by simp [updB, h]
theorem updB_comm (β : Nat → Nat) {i j : Nat} (h : i ≠ j) (B C : Nat) : updB (updB β i B) j C = updB (updB β j C) i B := by
  funext k
  by_cases h1 : k = i
  · subst h1
    rw [updB_ne _ _ h, updB_same, updB_same]
  · by_cases h2 : k = j
    · subst h2
      rw [updB_same, updB_ne _ _ h1, updB_same]
    · rw [updB_ne _ _ h2, updB_ne _ _ h1, updB_ne _ _ h1, updB_ne _ _ h2]

/-- The head's new blocks: wherever they come to lie. -/
def La (W : World) (F : (Nat → Nat) → Act → Prop) : List (Nat × Oper) → (Nat → Nat) → Act → Prop
  | [], β, a => F β a
  | o :: rest, β, a => ∀ B, W.heap.size ≤ B → La W F rest (updB β o.1 B) (a.put o.2.dst (.pointer (some ⟨B, 0, none⟩)))

theorem La.pick {F : (Nat → Nat) → Act → Prop} (j : Nat × Oper) (post : List (Nat × Oper)) : ∀ (pre : List (Nat × Oper)) (β : Nat → Nat) (a : Act), (∀ p ∈ pre, p.1 ≠ j.1 ∧ ∀ d, p.2.dst = some d → j.2.dst ≠ some d) → La W F (pre ++ j :: post) β a →
    ∀ B, W.heap.size ≤ B → La W F (pre ++ post) (updB β j.1 B) (a.put j.2.dst (.pointer (some ⟨B, 0, none⟩)))
  | [], _, _, _, h => h
  | i :: pre, β, a, hap, h => fun B hB Bi hBi => by
    have h2 := La.pick j post pre (updB β i.1 Bi) (a.put i.2.dst (.pointer (some ⟨Bi, 0, none⟩))) (fun p hp => hap p (by simp [hp])) (h Bi hBi) B hB
    have hi := hap i (by simp)
    rw [updB_comm _ hi.1, Act.put_comm a _ _ hi.2] at h2
    exact h2

theorem not_waits {i j : Nat} {listed : Array Bool} (hj : j ∈ Region.ready md ops listed) (hi : listed.getD i true = false) : Region.waitsFor md ops j i = false := by
  cases h : Region.waitsFor md ops j i
  · rfl
  · obtain ⟨oj, hoj, e, he, hb, hon⟩ := Region.waitsFor_spec h
    obtain ⟨_, o, ho, hall⟩ := mem_ready.1 hj
    have : oj = o := Option.some.inj (hoj.symm.trans ho)
    subst this
    have h2 := hall e he hb
    rw [hon, getD_both hi] at h2
    cases h2

theorem split_at {α : Type} {x : α} {l : List α} (h : x ∈ l) : ∃ pre post, l = pre ++ x :: post := List.append_of_mem h

end
end Go.Proofs.Ytonhcdhlinlncaa
