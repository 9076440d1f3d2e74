/- The operations of chained regions (ChainT): a quiet one, one that builds a slice, an append, a call. Nothing here speaks of one program. -/
import Derived.Test.YtonhcdhlinlncaaChainT
import Derived.Test.YtonhcdhlinlncaaAppends
namespace Go.Proofs.Ytonhcdhlinlncaa
open Go.RowKit

section
variable {P : Program} {ops : Array Oper} {C : World → Prop}

/-- A world of the class. -/
structure InC (C : World → Prop) where
  world : World
  ok : C world
theorem LqC_on {E : Act → Prop} {a : Act} {o : Oper} {rest : List Oper}
    (h : ∀ K : Act → Prop, (∀ a, LqC P ops C E rest a → K a) → if Region.wanted o (yielded ops a.tmps) then ∃ v, (∀ n : InC C, mkUpon P n.world v ((execOp a.eval o).run P n.world)) ∧ K (a.put o.dst v) else K (a.put o.dst undef)) : LqC P ops C E (o :: rest) a :=
  LqC_step fun K hK => by
    have h1 := h K hK
    by_cases hw : Region.wanted o (yielded ops a.tmps) = true
    · rw [if_pos hw] at h1 ⊢
      obtain ⟨v, h2, h3⟩ := h1
      exact ⟨v, fun w hw => h2 ⟨w, hw⟩, h3⟩
    · rw [if_neg hw] at h1 ⊢
      exact h1

theorem ChC_build {E : (World → Prop) → Act → Prop} {Kn : World → Prop} {a : Act} {o : Oper} {rest : List Oper} (hgd : o.guard = none) (m : Nat) (cs : Array Value) (t : TypeId)
    (hrun : ∀ w, (execOp a.eval o).run P w = .ok (.value (.slice (some ⟨w.heap.size, 0, none⟩) m m)) (w.alloc (.cells cs t))) (hC : StaysC C) (hK : StaysC Kn)
    (h : ∀ v, ChC P C E rest (fun w => Kn w ∧ ∃ B, v = .slice (some ⟨B, 0, none⟩) m m ∧ w.heap[B]? = some (.cells cs t)) (a.put o.dst v)) : ChC P C E (o :: rest) Kn a := by
  refine ⟨hgd, fun v w => Kn w ∧ ∃ B, v = .slice (some ⟨B, 0, none⟩) m m ∧ w.heap[B]? = some (.cells cs t), fun v w w' hk hb => ?_, fun w hw hk => ?_, h⟩
  · obtain ⟨k, B, e1, e2⟩ := hk
    exact ⟨hK _ _ k hb, B, e1, (hb.block B (((Array.getElem?_eq_some_iff.1 e2).1))).trans e2⟩
  · rw [hrun w]
    exact ⟨hC _ _ hw (Below.al1 w _), hK _ _ hk (Below.al1 w _), _, rfl, World.alloc_heap_new w _⟩

theorem ChC_append {E : (World → Prop) → Act → Prop} {Kn : World → Prop} {a : Act} {o : Oper} {rest : List Oper} (hgd : o.guard = none) (s x : Operand) (t : TypeId)
    (ho : o.op = .call { callee := .builtin .append, args := #[s, x], argTypes := #[t, t] })
    (base : Nat) (e : TypeId) (i : TypeInfo) (z : Value) (size bytes : Nat) (ht : P.underlying t = some (.slice e)) (hi : P.info? e = some i) (hz : i.zero = some z)
    (hsize : i.size = size) (hby : i.bytes = bytes) (hzs : z.cells.size = size) (hsz : 0 < size)
    (v : Value) (n : Nat) (xs : List Value) (hs : a.eval s = v) (vx : Value) (m : Nat) (news : List Value) (hx : a.eval x = vx) (hl : news.length = m * size) (h1 : ∀ u ∈ news, u.oneCell' = true)
    (h63 : n + m ≤ maxLen) (hbytes : (n + m) * bytes ≤ 140737488355328)
    (hin : ∀ w, C w → Kn w → w.ownsRow base e size v n xs ∧ base ≤ w.heap.size ∧ ∃ p c, vx = .slice p m c ∧ ((p = none ∧ m = 0 ∧ c = 0) ∨ ∃ ad, p = some ad ∧ ∀ j u, news[j]? = some u → w.cell? (ad.add j) = some u))
    (Z : Nat) (hZ : ∀ w, C w → Z ≤ w.heap.size) (hC : ∀ w w', C w → Kn w → w.grownBy w' v.ownBlock → C w')
    (h : ∀ v', ChC P C E rest (fun w => w.ownsRow base e size v' (n + m) (xs ++ news) ∧ ∀ k, v'.ownBlock = some k → v.ownBlock = some k ∨ Z ≤ k) (a.put o.dst v')) : ChC P C E (o :: rest) Kn a := by
  refine ⟨hgd, fun v' w => w.ownsRow base e size v' (n + m) (xs ++ news) ∧ ∀ k, v'.ownBlock = some k → v.ownBlock = some k ∨ Z ≤ k, fun v w w' hk hb => ⟨?_, hk.2⟩, fun w hw hk => ?_, h⟩
  · exact (Turns.of_below' (T := fun _ => False) hb).owns hk.1 (fun _ _ h => h)
  · obtain ⟨g1, g2, p, c, rfl, g3⟩ := hin w hw hk
    obtain ⟨v', w', hr, r2, r3, r4⟩ := run_append_mine (P := P) w base t o.type e i z size bytes ht hi hz hsize hby hzs hsz v n xs g1 p m c news hl g3 h1 h63 hbytes g2
    unfold execOp
    simp only [ho, resolve, invoke, builtin, Sem.run_bind, Sem.run_pure, Result.andThen_ok, List.map_toArray, List.map_cons, List.map_nil, hs, hx, hr]
    exact ⟨hC w w' hw hk r3, r2, fun k hk => (r4 k hk).imp id fun h => Nat.le_trans (hZ w hw) h⟩

theorem ChC_call {E : (World → Prop) → Act → Prop} {Kn : World → Prop} {a : Act} {o : Oper} {rest : List Oper} (hgd : o.guard = none) (f : FuncId) (args : Array Value)
    (hrun : ∀ w, (execOp a.eval o).run P w = .ok (.enter f args) w) (Po : Value → World → Prop) (hst : ∀ v, StaysC (Po v))
    (hcall : ∀ w, C w → Kn w → Calls P f args w fun e w' => ∃ v, e = .returned v ∧ C w' ∧ Po v w')
    (h : ∀ v, ChC P C E rest (Po v) (a.put o.dst v)) : ChC P C E (o :: rest) Kn a := by
  refine ⟨hgd, Po, hst, fun w hw hk => ?_, h⟩
  rw [hrun w]
  exact ⟨rfl, hcall w hw hk⟩
end

end Go.Proofs.Ytonhcdhlinlncaa
