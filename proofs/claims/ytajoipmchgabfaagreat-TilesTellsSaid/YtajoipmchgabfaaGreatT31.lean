/- Several texts in one, each with its own head. -/
import Derived.Test.YtajoipmchgabfaaGreatT30
import Derived.OrdersIn
import Derived.RangeFuncCalls
/- Regions that draw their order, whose head only reads and calls what keeps all that there is, and whose tail waits for all of the head: one walk of the head in the order of the text. Nothing here speaks of one program. -/
namespace Go.Proofs.YtajoipmchgabfaaGreat
open Go.RowKit

section
variable {P : Program}

theorem any_region_head {Q : Exit → Act → World → Prop} {a : Act} {w : World} {l : List Oper} (n : Nat) (hS : shapeB .any l.toArray n = true)
    (hseq : Region.seqB .any l.toArray (l.drop n).length n (headDone l.toArray.size n) = true)
    (h : Lq P l.toArray w (fun a' => ∀ w' : World, Below w.heap.size w w' → wpList P l.toArray Q (l.drop n) a' w') (l.take n) a) : wpAny P .any l.toArray Q l.toArray.size (Array.replicate l.toArray.size false) a { w with drawn := w.drawn + 1 } := by
  have S := shape_of hS
  have hle : n ≤ l.length := by simpa using S.le
  have htake : (l.take n).length = n := by simp; omega
  have H := boxes_any (P := P) (W := w) (md := .any) (Q' := Q) (F := fun _ a' => ∀ w' : World, Below w.heap.size w w' → wpList P l.toArray Q (l.drop n) a' w')
    [] (fun _ => default) (l.drop n) S (fun j => by simp [List.getElem?_drop]) hseq
    (fun p hp => by cases hp)
    (fun β a' w' hF hb _ _ => hF w' hb)
    n (Array.replicate l.toArray.size false) a { w with drawn := w.drawn + 1 } (fun _ => 0) (placed 0 (l.take n)) [] (by rw [placed_len, htake]; rfl)
    ⟨by simp, fun j oj _ hl => (by rw [getD_replicate_false] at hl; cases hl), fun t _ ht => getD_in (by simpa using ht) (getD_replicate_false _ _)⟩
    { size := by simp
      all := fun i hi _ => Or.inl (placed_all _ 0 i (by omega) (by rw [htake]; omega))
      q := fun p hp => by
        obtain ⟨p1, p2, p3⟩ := placed_mem _ 0 p hp
        rw [htake] at p2
        refine ⟨by omega, ?_, ?_⟩
        · exact getD_in (by simp; omega) (getD_replicate_false _ _)
        · rw [Nat.sub_zero, List.getElem?_take, if_pos (by omega)] at p3
          simpa using p3
      a := fun p hp => by cases hp
      qa := fun p hp r hr => by cases hr
      sq := placed_sorted _ _
      sa := List.Pairwise.nil
      tail := fun t _ ht => getD_in (by simpa using ht) (getD_replicate_false _ _)
      below := ⟨rfl, rfl, rfl, Nat.le_refl _, fun _ _ => rfl⟩
      rooms := fun p hp => by cases hp
      apart := fun p hp _ _ _ _ _ => by cases hp }
    (by
      rw [placed_snd]
      exact h)
  have hfuel : n + (l.drop n).length = l.toArray.size := by simp; omega
  rw [hfuel] at H
  exact H

theorem wp_region_head {id : Nat} {Q : Exit → Act → World → Prop} {a : Act} {w : World} {l : List Oper} (n : Nat) (hm : P.follows .mixedOrders = true) (hS : shapeB .any l.toArray n = true)
    (hseq : Region.seqB .any l.toArray (l.drop n).length n (headDone l.toArray.size n) = true)
    (h : Lq P l.toArray w (fun a' => ∀ w' : World, Below w.heap.size w w' → wpList P l.toArray Q (l.drop n) a' w') (l.take n) a) : (Code.region id l.toArray true).wp P Q a w :=
  wp_region_any hm (any_region_head n hS hseq h)

/-- A region whose head ends in one new block. -/
theorem wp_region_box1 {id : Nat} {Q : Exit → Act → World → Prop} {a : Act} {w : World} {l : List Oper} (n : Nat) (o1 : Oper) (b1 : Obj) (hm : P.follows .mixedOrders = true) (hS : shapeB .any l.toArray (n + 1) = true)
    (hseq : Region.seqB .any l.toArray (l.drop (n + 1)).length (n + 1) (headDone l.toArray.size (n + 1)) = true) (h1 : l[n]? = some o1) (hg1 : o1.guard = none)
    (hr1 : ∀ (a : Act) (w : World), (execOp a.eval o1).run P w = .ok (.value (.pointer (some ⟨w.heap.size, 0, none⟩))) (w.alloc b1))
    (h : Lq P l.toArray w (fun a' => ∀ (B1 : Nat) (w' : World), w.heap.size ≤ B1 → Below w.heap.size w w' → w'.heap[B1]? = some b1 →
      wpList P l.toArray Q (l.drop (n + 1)) (a'.put o1.dst (.pointer (some ⟨B1, 0, none⟩))) w') (l.take n) a) : (Code.region id l.toArray true).wp P Q a w := by
  have S := shape_of hS
  have hle : n + 1 ≤ l.length := by simpa using S.le
  have htake : (l.take n).length = n := by simp; omega
  refine wp_region_any hm ?_
  have H := boxes_any (P := P) (W := w) (md := .any) (Q' := Q) (F := fun β a' => ∀ w' : World, w.heap.size ≤ β n → Below w.heap.size w w' → w'.heap[β n]? = some b1 → wpList P l.toArray Q (l.drop (n + 1)) a' w')
    [(n, o1)] (fun _ => b1) (l.drop (n + 1)) S (fun j => by simp [List.getElem?_drop]) hseq
    (fun p hp => by
      rcases List.mem_cons.1 hp with rfl | hp
      · exact ⟨by simpa using h1, hg1, fun a w => hr1 a w⟩
      · cases hp)
    (fun β a' w' hF hb hrm _ => by
      have r1 := hrm (n, o1) (by simp)
      exact hF w' r1.1 hb r1.2)
    (n + 1) (Array.replicate l.toArray.size false) a { w with drawn := w.drawn + 1 } (fun _ => 0) (placed 0 (l.take n)) [(n, o1)] (by rw [placed_len, htake]; rfl)
    ⟨by simp, fun j oj _ hl => (by rw [getD_replicate_false] at hl; cases hl), fun t _ ht => getD_in (by simpa using ht) (getD_replicate_false _ _)⟩
    { size := by simp
      all := fun i hi _ => by
        by_cases e : i < n
        · exact Or.inl (placed_all _ 0 i (by omega) (by rw [htake]; omega))
        · exact Or.inr ⟨(n, o1), by simp, by simp only; omega⟩
      q := fun p hp => by
        obtain ⟨p1, p2, p3⟩ := placed_mem _ 0 p hp
        rw [htake] at p2
        refine ⟨by omega, ?_, ?_⟩
        · exact getD_in (by simp; omega) (getD_replicate_false _ _)
        · rw [Nat.sub_zero, List.getElem?_take, if_pos (by omega)] at p3
          simpa using p3
      a := fun p hp => by
        refine ⟨hp, ?_⟩
        rcases List.mem_cons.1 hp with rfl | hp
        · exact ⟨by simp, getD_in (by simp; omega) (getD_replicate_false _ _), by simpa using h1⟩
        · cases hp
      qa := fun p hp r hr => by
        have p2 := (placed_mem _ 0 p hp).2.1
        rw [htake] at p2
        rcases List.mem_cons.1 hr with rfl | hr
        · simp only; omega
        · cases hr
      sq := placed_sorted _ _
      sa := by simp
      tail := fun t _ ht => getD_in (by simpa using ht) (getD_replicate_false _ _)
      below := ⟨rfl, rfl, rfl, Nat.le_refl _, fun _ _ => rfl⟩
      rooms := fun p hp => Or.inl hp
      apart := fun p hp _ _ hn _ _ => absurd hp hn }
    (by
      rw [placed_snd]
      refine Lq.mono (fun a' h' => ?_) _ _ h
      intro B1 hB1 w' _ hb x1
      simp only [updB_same] at x1
      exact h' B1 w' hB1 hb x1)
  have hfuel : n + 1 + (l.drop (n + 1)).length = l.toArray.size := by simp; omega
  rw [hfuel] at H
  exact H


end

end Go.Proofs.YtajoipmchgabfaaGreat

/- Regions that draw their order, within a round of a range over a function: what is walked as everywhere holds in a round, too, where nothing is deferred. Nothing here speaks of one program. -/
namespace Go.Proofs.YtajoipmchgabfaaGreat
open Go.RowKit

def noDefer (l : List Oper) : Bool := l.all fun o => match o.op with | .defer _ => false | _ => true

theorem oper_in {P : Program} {L : Nat} {o : Oper} {a : Act} {w : World} {K : Act → World → Prop} {Q : Exit → Act → World → Prop} (hd : ∀ c, o.op ≠ .defer c) (h : o.wp P a w K Q) : o.wpIn (Fence.wide.inRound L) 0 P a w K Q := by
  refine ⟨fun _ _ => trivial, ?_⟩
  unfold Oper.wp at h
  rw [Oper.semAt_eq _ _ _ hd]
  cases e : (execOp a.eval o).run P w with
  | ok x w' =>
    rw [e] at h
    cases x with
    | value v => exact h
    | skip => exact h
    | defer d => exact h
    | enter f args => exact ⟨fun h => by simp [Fence.wide] at h, CallsIn.inRound _ (callsIn_wide.2 h)⟩
    | row r args => exact ⟨fun h => by simp [Fence.wide] at h, fun c cs _ => let ⟨v, w', r, s⟩ := h c cs; ⟨v, w', r, stepsIn_wide.2 s⟩⟩
    | round _ _ _ _ _ => exact h.elim
    | _ => exact h.elim
  | halt x w' =>
    rw [e] at h
    cases x <;> first | exact h | exact h.elim

theorem op_in {P : Program} {L : Nat} {ops : Array Oper} {Q : Exit → Act → World → Prop} {i : Nat} {K K' : Act → World → Prop} {a : Act} {w : World} (hK : ∀ a w, K a w → K' a w) (hd : ∀ o, ops[i]? = some o → ∀ c, o.op ≠ .defer c) (hQ : ¬ LetsOut Q) (h : wpOp P ops Q i K a w) : wpOpIn (Fence.wide.inRound L) 0 P ops Q i K' a w := by
  unfold wpOp at h
  unfold wpOpIn
  cases e : ops[i]? with
  | none => rw [e] at h; exact hK _ _ h
  | some o =>
    rw [e] at h
    simp only at h ⊢
    split
    · rename_i hw
      rw [if_pos hw] at h
      rcases h with h | h
      · exact Oper.wpIn_mono hK (oper_in (hd o e) h)
      · exact absurd h.2 hQ
    · rename_i hw
      rw [if_neg hw] at h
      exact ⟨fun _ _ => trivial, hK _ _ h⟩
theorem any_in {P : Program} {L : Nat} {md : Region.Mode} {ops : Array Oper} {Q : Exit → Act → World → Prop} (hd : ∀ (i : Nat) o, ops[i]? = some o → ∀ c, o.op ≠ .defer c) (hQ : ¬ LetsOut Q) : ∀ (fuel : Nat) (listed : Array Bool) (a : Act) (w : World), wpAny P md ops Q fuel listed a w → wpAnyIn (Fence.wide.inRound L) 0 P md ops Q fuel listed a w
  | 0, _, _, _, h => h
  | fuel + 1, _, _, _, h => ⟨h.1, fun i hi => op_in (fun a w => any_in hd hQ fuel _ a w) (hd i) hQ (h.2 i hi)⟩

/-- The law of the head, in a round. -/
theorem wpIn_region_head {P : Program} {L id : Nat} {Q : Exit → Act → World → Prop} {a : Act} {w : World} {l : List Oper} (n : Nat) (hm : P.follows .mixedOrders = true) (hS : shapeB .any l.toArray n = true)
    (hseq : Region.seqB .any l.toArray (l.drop n).length n (headDone l.toArray.size n) = true) (hd : noDefer l = true) (hQ : ¬ LetsOut Q)
    (h : Lq P l.toArray w (fun a' => ∀ w' : World, Below w.heap.size w w' → wpList P l.toArray Q (l.drop n) a' w') (l.take n) a) : (Code.region id l.toArray true).wpIn (Fence.wide.inRound L) 0 P Q a w := by
  refine wpIn_region_any hm (any_in (fun i o hi c hc => ?_) hQ _ _ _ _ (any_region_head n hS hseq h))
  unfold noDefer at hd
  have := List.all_eq_true.1 hd o (by
    rw [List.getElem?_toArray] at hi
    exact List.mem_of_getElem? hi)
  rw [hc] at this
  cases this

end Go.Proofs.YtajoipmchgabfaaGreat
