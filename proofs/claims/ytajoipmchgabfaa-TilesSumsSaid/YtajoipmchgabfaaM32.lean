/- Several texts in one, each with its own head. -/
import Derived.Test.YtajoipmchgabfaaM31
import Derived.Test.YtajoipmchgabfaaM7
import Derived.Test.YtajoipmchgabfaaM22
import Derived.Test.YtajoipmchgabfaaM24
import Derived.Test.YtajoipmchgabfaaM25
import Derived.Test.YtajoipmchgabfaaM27
/- The operations of chained regions (ChainT): a quiet one, one that builds a slice, an append, a call. Nothing here speaks of one program. -/
namespace Go.Proofs.Ytajoipmchgabfaa
open Go.RowKit

section
variable {P : Program} {ops : Array Oper} {C : World → Prop}

/-- A world of the class. -/
structure InC (C : World → Prop) where
  world : World
  ok : C world
theorem LqC_on {E : Act → Prop} {a : Act} {o : Oper} {rest : List Oper}
    (h : ∀ K : Act → Prop, (∀ a, LqC P ops C E rest a → K a) → if Region.wanted o (yielded ops a.tmps) then ∃ v, (∀ n : InC C, mkUpon P n.world v ((execOp a.eval o).run P n.world)) ∧ K (a.put o.dst v) else K (a.put o.dst undef)) : LqC P ops C E (o :: rest) a :=
  LqC_step fun K hK => by
    have h1 := h K hK
    by_cases hw : Region.wanted o (yielded ops a.tmps) = true
    · rw [if_pos hw] at h1 ⊢
      obtain ⟨v, h2, h3⟩ := h1
      exact ⟨v, fun w hw => h2 ⟨w, hw⟩, h3⟩
    · rw [if_neg hw] at h1 ⊢
      exact h1

theorem ChC_build {E : (World → Prop) → Act → Prop} {Kn : World → Prop} {a : Act} {o : Oper} {rest : List Oper} (hgd : o.guard = none) (m : Nat) (cs : Array Value) (t : TypeId)
    (hrun : ∀ w, (execOp a.eval o).run P w = .ok (.value (.slice (some ⟨w.heap.size, 0, none⟩) m m)) (w.alloc (.cells cs t))) (hC : StaysC C) (hK : StaysC Kn)
    (h : ∀ v, ChC P C E rest (fun w => Kn w ∧ ∃ B, v = .slice (some ⟨B, 0, none⟩) m m ∧ w.heap[B]? = some (.cells cs t)) (a.put o.dst v)) : ChC P C E (o :: rest) Kn a := by
  refine ⟨hgd, fun v w => Kn w ∧ ∃ B, v = .slice (some ⟨B, 0, none⟩) m m ∧ w.heap[B]? = some (.cells cs t), fun v w w' hk hb => ?_, fun w hw hk => ?_, h⟩
  · obtain ⟨k, B, e1, e2⟩ := hk
    exact ⟨hK _ _ k hb, B, e1, (hb.block B (((Array.getElem?_eq_some_iff.1 e2).1))).trans e2⟩
  · rw [hrun w]
    exact ⟨hC _ _ hw (Below.al1 w _), hK _ _ hk (Below.al1 w _), _, rfl, World.alloc_heap_new w _⟩

theorem ChC_append {E : (World → Prop) → Act → Prop} {Kn : World → Prop} {a : Act} {o : Oper} {rest : List Oper} (hgd : o.guard = none) (s x : Operand) (t : TypeId)
    (ho : o.op = .call { callee := .builtin .append, args := #[s, x], argTypes := #[t, t] })
    (base : Nat) (e : TypeId) (i : TypeInfo) (z : Value) (size bytes : Nat) (ht : P.underlying t = some (.slice e)) (hi : P.info? e = some i) (hz : i.zero = some z)
    (hsize : i.size = size) (hby : i.bytes = bytes) (hzs : z.cells.size = size) (hsz : 0 < size)
    (v : Value) (n : Nat) (xs : List Value) (hs : a.eval s = v) (vx : Value) (m : Nat) (news : List Value) (hx : a.eval x = vx) (hl : news.length = m * size) (h1 : ∀ u ∈ news, u.oneCell' = true)
    (h63 : n + m ≤ maxLen) (hbytes : (n + m) * bytes ≤ 140737488355328)
    (hin : ∀ w, C w → Kn w → w.ownsRow base e size v n xs ∧ base ≤ w.heap.size ∧ ∃ p c, vx = .slice p m c ∧ ((p = none ∧ m = 0 ∧ c = 0) ∨ ∃ ad, p = some ad ∧ ∀ j u, news[j]? = some u → w.cell? (ad.add j) = some u))
    (Z : Nat) (hZ : ∀ w, C w → Z ≤ w.heap.size) (hC : ∀ w w', C w → Kn w → w.grownBy w' v.ownBlock → C w')
    (h : ∀ v', ChC P C E rest (fun w => w.ownsRow base e size v' (n + m) (xs ++ news) ∧ ∀ k, v'.ownBlock = some k → v.ownBlock = some k ∨ Z ≤ k) (a.put o.dst v')) : ChC P C E (o :: rest) Kn a := by
  refine ⟨hgd, fun v' w => w.ownsRow base e size v' (n + m) (xs ++ news) ∧ ∀ k, v'.ownBlock = some k → v.ownBlock = some k ∨ Z ≤ k, fun v w w' hk hb => ⟨?_, hk.2⟩, fun w hw hk => ?_, h⟩
  · exact (Turns.of_below' (T := fun _ => False) hb).owns hk.1 (fun _ _ h => h)
  · obtain ⟨g1, g2, p, c, rfl, g3⟩ := hin w hw hk
    obtain ⟨v', w', hr, r2, r3, r4⟩ := run_append_mine (P := P) w base t o.type e i z size bytes ht hi hz hsize hby hzs hsz v n xs g1 p m c news hl g3 h1 h63 hbytes g2
    unfold execOp
    simp only [ho, resolve, invoke, builtin, Sem.run_bind, Sem.run_pure, Result.andThen_ok, List.map_toArray, List.map_cons, List.map_nil, hs, hx, hr]
    exact ⟨hC w w' hw hk r3, r2, fun k hk => (r4 k hk).imp id fun h => Nat.le_trans (hZ w hw) h⟩

theorem ChC_call {E : (World → Prop) → Act → Prop} {Kn : World → Prop} {a : Act} {o : Oper} {rest : List Oper} (hgd : o.guard = none) (f : FuncId) (args : Array Value)
    (hrun : ∀ w, (execOp a.eval o).run P w = .ok (.enter f args) w) (Po : Value → World → Prop) (hst : ∀ v, StaysC (Po v))
    (hcall : ∀ w, C w → Kn w → Calls P f args w fun e w' => ∃ v, e = .returned v ∧ C w' ∧ Po v w')
    (h : ∀ v, ChC P C E rest (Po v) (a.put o.dst v)) : ChC P C E (o :: rest) Kn a := by
  refine ⟨hgd, Po, hst, fun w hw hk => ?_, h⟩
  rw [hrun w]
  exact ⟨rfl, hcall w hw hk⟩
end

end Go.Proofs.Ytajoipmchgabfaa

/- tiles: what pieces has in memory; laws for regions whose last operations build a slice, append it, and store. -/
namespace Go.Proofs.Ytajoipmchgabfaa
open Go.RowKit Go.Maps

section
variable {P : Program}

/-- Marks of ranges over functions among the deferred calls. -/
def mkD (r : Nat) : Deferred := { target := .collected r, args := #[] }
theorem leaves_marks {F : Fence} {n : Nat} {fn : Func} {tmps : Array Value} {R : Ending → World → Prop} : ∀ (rs : List Nat) (w : World), rs.Nodup → (∀ r ∈ rs, w.heap[r]? = some (.deferred (some []))) →
    (∀ w', Turns (fun b => b ∈ rs) w w' → LeavesIn F n P fn tmps R [] .returning w') → LeavesInM F n P fn tmps R (rs.map mkD) .returning w
  | [], w, _, _, h => h w (Turns.refl _ _)
  | r :: rs, w, hnd, hd, h => by
    obtain ⟨n1, n2⟩ := List.nodup_cons.1 hnd
    have htd := Turns.put (T := fun b => b = r) w r (.deferred none) rfl
    refine ⟨by simp, .inl ⟨r, _, rfl, run_takeDeferred (hd r List.mem_cons_self), leaves_marks rs _ n2 (fun q hq => ?_) fun w' ht => h w' ?_⟩⟩
    · have hq' := hd q (List.mem_cons_of_mem _ hq)
      exact (htd.block q (lt_heapT hq') (fun e => by subst e; exact n1 hq)).trans hq'
    · exact (htd.mono (fun i _ e => by rw [e]; exact List.mem_cons_self)).trans (ht.mono (fun i _ hi => List.mem_cons_of_mem _ hi))
end

def ownF (F : Nat → Option Value) (i : Nat) : Value := (F i).getD (.slice none 0 0)
def intF (F : Nat → Option Value) (k : Int) : Option Value := if 0 ≤ k then F k.toNat else none
theorem intF_nat (F : Nat → Option Value) (i : Nat) : intF F (i : Int) = F i := by unfold intF; simp

/-- A map's box b8, its map M, the rows that the map holds: each of one's own, apart from each other, and from T. -/
structure PcF (w0 : World) (b8 M N0 : Nat) (T : Nat → Prop) (F : Nat → Option Value) (E : List (Nat × Rc)) (w : World) : Prop where
  box : w.cell? ⟨b8, 0, none⟩ = some (.map (some M))
  map : MapV w M E.length (intF F)
  no : ∀ i, ofN E i = [] → F i = none
  yes : ∀ i, ofN E i ≠ [] → F i ≠ none
  row : ∀ i, w.ownsRow N0 38 4 (ownF F i) (ofN E i).length (flatR (ofN E i))
  apart : ∀ i j k, (ownF F i).ownBlock = some k → (ownF F j).ownBlock = some k → i = j
  out : ∀ i k, (ownF F i).ownBlock = some k → ¬ T k
  tb : ¬ T b8
  tm : ¬ T M
  tw : ∀ b, T b → w0.heap.size ≤ b
  lb : b8 < N0
  lm : M < N0
  ne : b8 ≠ M
  nw : N0 ≤ w.heap.size
  wm : w0.heap.size ≤ M
  bel : Below w0.heap.size w0 w

variable {w0 w w' : World} {b8 M N0 m : Nat} {T Tp S : Nat → Prop} {F : Nat → Option Value} {E : List (Nat × Rc)}
theorem PcF.turn (h : PcF w0 b8 M N0 Tp F E w) (ht : Turns S w w') (hS : ∀ b, S b → Tp b) (hm : w.heap.size ≤ m) (hT : ∀ b, T b → Tp b ∨ m ≤ b) : PcF w0 b8 M N0 T F E w' := by
  obtain ⟨h1, h2, h3, h4, h5, h6, h7, h8, h9, h10, h11, h12, h13, h14, h15, h16⟩ := h
  have h16s := h16.size
  refine ⟨ht.cell h1 (fun hb => h8 (hS _ hb)), h2.turned ht (fun hb => h9 (hS _ hb)), h3, h4, fun i => ht.owns (h5 i) (fun k hk hb => h7 i k hk (hS _ hb)), h6, fun i k hk hb => ?_, fun hb => ?_, fun hb => ?_, fun b hb => ?_, h11, h12, h13, Nat.le_trans h14 ht.size, h15, h16.trans (ht.below h16.size (fun i hi => h10 i (hS i hi)))⟩
  · have := ((h5 i).lt k hk).2
    rcases hT _ hb with h | h
    · exact h7 i k hk h
    · omega
  · rcases hT _ hb with h | h
    · exact h8 h
    · omega
  · rcases hT _ hb with h | h
    · exact h9 h
    · omega
  · rcases hT _ hb with h | h
    · exact h10 _ h
    · omega

theorem PcF.step {w4 w5 : World} (h : PcF w0 b8 M N0 T F E w) {num : Nat} {r : Rc} {v' : Value} (hT : ∀ b, T b → b < w.heap.size)
    (ht4 : Turns (fun b => (ownF F num).ownBlock = some b) w w4) (ho4 : w4.ownsRow N0 38 4 v' ((ofN E num).length + 1) (flatR (ofN E num) ++ encR r)) (hp : ∀ k, v'.ownBlock = some k → (ownF F num).ownBlock = some k ∨ w.heap.size ≤ k)
    (ht5 : w4.mapTurned w5 M) (hm5 : MapV w5 M (E.length + 1) (fun k' => if k' = (num : Int) then some v' else intF F k')) : PcF w0 b8 M N0 T (fun i => if i = num then some v' else F i) (E ++ [(num, r)]) w5 := by
  obtain ⟨h1, h2, h3, h4, h5, h6, h7, h8, h9, h10, h11, h12, h13, h14, h15, h16⟩ := h
  have ht5' := mt_turnsV ht5
  have h16s := h16.size
  have hown : ∀ i k, (ownF F i).ownBlock = some k → N0 ≤ k ∧ k < w.heap.size := fun i k hk => (h5 i).lt k hk
  have hne : ∀ i, i ≠ num → ofN (E ++ [(num, r)]) i = ofN E i := fun i hi => by rw [ofN_append, ofN_one, if_neg (fun e => hi e.symm), List.append_nil]
  have hsame : ofN (E ++ [(num, r)]) num = ofN E num ++ [r] := by rw [ofN_append, ofN_one, if_pos rfl]
  have hF1 : ownF (fun i => if i = num then some v' else F i) num = v' := by unfold ownF; simp
  have hF2 : ∀ i, i ≠ num → ownF (fun i => if i = num then some v' else F i) i = ownF F i := fun i hi => by unfold ownF; simp [hi]
  refine ⟨ht5'.cell (ht4.cell h1 (fun hb => by have := (hown _ _ hb).1; simp only at this; omega)) (fun e => h13 e), ?_, fun i hi => ?_, fun i hi => ?_, fun i => ?_, fun i j k hi hj => ?_, fun i k hi hb => ?_, h8, h9, h10, h11, h12, h13, Nat.le_trans h14 (Nat.le_trans ht4.size ht5'.size), h15, ?_⟩
  · rw [List.length_append]
    have e : (intF fun i => if i = num then some v' else F i) = fun k' => if k' = (num : Int) then some v' else intF F k' := by
      funext k
      unfold intF
      by_cases hk : 0 ≤ k
      · by_cases e : k = (num : Int)
        · subst e; simp
        · have e' : k.toNat ≠ num := by omega
          simp [hk, e, e']
      · have e : k ≠ (num : Int) := by omega
        simp [hk, e]
    rw [e]; exact hm5
  · by_cases e : i = num
    · subst e; rw [hsame] at hi; simp at hi
    · rw [hne i e] at hi; simp only [if_neg e]; exact h3 i hi
  · by_cases e : i = num
    · simp [e]
    · rw [hne i e] at hi; simp only [if_neg e]; exact h4 i hi
  · by_cases e : i = num
    · subst e
      rw [hF1, hsame, List.length_append, show flatR (ofN E i ++ [r]) = flatR (ofN E i) ++ encR r by simp [flatR]]
      exact ht5'.owns ho4 (fun k hk e => by have := (ho4.lt k hk).1; omega)
    · rw [hF2 i e, hne i e]
      exact ht5'.owns (ht4.owns (h5 i) (fun k hk hb => e (h6 i num k hk hb))) (fun k hk e => by have := (hown i k hk).1; omega)
  · by_cases ei : i = num
    · by_cases ej : j = num
      · rw [ei, ej]
      · subst ei
        rw [hF1] at hi
        rw [hF2 j ej] at hj
        rcases hp k hi with h | h
        · exact h6 _ _ k h hj
        · have := (hown j k hj).2; omega
    · rw [hF2 i ei] at hi
      by_cases ej : j = num
      · subst ej
        rw [hF1] at hj
        rcases hp k hj with h | h
        · exact h6 _ _ k hi h
        · have := (hown i k hi).2; omega
      · rw [hF2 j ej] at hj
        exact h6 i j k hi hj
  · by_cases ei : i = num
    · subst ei
      rw [hF1] at hi
      rcases hp k hi with h | h
      · exact h7 i k h hb
      · have := hT k hb; omega
    · rw [hF2 i ei] at hi
      exact h7 i k hi hb
  · exact h16.trans ((ht4.below h16.size (fun b hb => by have := (hown _ _ hb).1; omega)).trans (ht5'.below (Nat.le_trans h16.size ht4.size) (fun b hb => by omega)))

end Go.Proofs.Ytajoipmchgabfaa
