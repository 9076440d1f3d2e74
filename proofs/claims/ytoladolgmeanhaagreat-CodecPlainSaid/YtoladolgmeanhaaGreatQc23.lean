/- Several texts in one, each with its own head. -/
import Derived.Test.YtoladolgmeanhaaGreatQc2
import Derived.OrdersIn
import Derived.RangeFuncCalls
import Derived.Test.YtoladolgmeanhaaGreatQc3
/- Regions that draw their order, within a round of a range over a function: what is walked as everywhere holds in a round, too, where nothing is deferred. Nothing here speaks of one program. -/
namespace Go.Proofs.YtoladolgmeanhaaGreat
open Go.RowKit

def noDefer (l : List Oper) : Bool := l.all fun o => match o.op with | .defer _ => false | _ => true
theorem oper_in {P : Program} {L : Nat} {o : Oper} {a : Act} {w : World} {K : Act → World → Prop} {Q : Exit → Act → World → Prop} (hd : ∀ c, o.op ≠ .defer c) (h : o.wp P a w K Q) : o.wpIn (Fence.wide.inRound L) 0 P a w K Q := by
  refine ⟨fun _ _ => trivial, ?_⟩
  unfold Oper.wp at h
  rw [Oper.semAt_eq _ _ _ hd]
  cases e : (execOp a.eval o).run P w with
  | ok x w' =>
    rw [e] at h
    cases x with
    | value v => exact h
    | skip => exact h
    | defer d => exact h
    | enter f args => exact ⟨fun h => by simp [Fence.wide] at h, CallsIn.inRound _ (callsIn_wide.2 h)⟩
    | row r args => exact ⟨fun h => by simp [Fence.wide] at h, fun c cs _ => let ⟨v, w', r, s⟩ := h c cs; ⟨v, w', r, stepsIn_wide.2 s⟩⟩
    | round _ _ _ _ _ => exact h.elim
    | _ => exact h.elim
  | halt x w' =>
    rw [e] at h
    cases x <;> first | exact h | exact h.elim
theorem op_in {P : Program} {L : Nat} {ops : Array Oper} {Q : Exit → Act → World → Prop} {i : Nat} {K K' : Act → World → Prop} {a : Act} {w : World} (hK : ∀ a w, K a w → K' a w) (hd : ∀ o, ops[i]? = some o → ∀ c, o.op ≠ .defer c) (hQ : ¬ LetsOut Q) (h : wpOp P ops Q i K a w) : wpOpIn (Fence.wide.inRound L) 0 P ops Q i K' a w := by
  unfold wpOp at h
  unfold wpOpIn
  cases e : ops[i]? with
  | none => rw [e] at h; exact hK _ _ h
  | some o =>
    rw [e] at h
    simp only at h ⊢
    split
    · rename_i hw
      rw [if_pos hw] at h
      rcases h with h | h
      · exact Oper.wpIn_mono hK (oper_in (hd o e) h)
      · exact absurd h.2 hQ
    · rename_i hw
      rw [if_neg hw] at h
      exact ⟨fun _ _ => trivial, hK _ _ h⟩
theorem any_in {P : Program} {L : Nat} {md : Region.Mode} {ops : Array Oper} {Q : Exit → Act → World → Prop} (hd : ∀ (i : Nat) o, ops[i]? = some o → ∀ c, o.op ≠ .defer c) (hQ : ¬ LetsOut Q) : ∀ (fuel : Nat) (listed : Array Bool) (a : Act) (w : World), wpAny P md ops Q fuel listed a w → wpAnyIn (Fence.wide.inRound L) 0 P md ops Q fuel listed a w
  | 0, _, _, _, h => h
  | fuel + 1, _, _, _, h => ⟨h.1, fun i hi => op_in (fun a w => any_in hd hQ fuel _ a w) (hd i) hQ (h.2 i hi)⟩
theorem wpIn_region_head {P : Program} {L id : Nat} {Q : Exit → Act → World → Prop} {a : Act} {w : World} {l : List Oper} (n : Nat) (hm : P.follows .mixedOrders = true) (hS : shapeB .any l.toArray n = true)
    (hseq : Region.seqB .any l.toArray (l.drop n).length n (headDone l.toArray.size n) = true) (hd : noDefer l = true) (hQ : ¬ LetsOut Q)
    (h : Lq P l.toArray w (fun a' => ∀ w' : World, Below w.heap.size w w' → wpList P l.toArray Q (l.drop n) a' w') (l.take n) a) : (Code.region id l.toArray true).wpIn (Fence.wide.inRound L) 0 P Q a w := by
  refine wpIn_region_any hm (any_in (fun i o hi c hc => ?_) hQ _ _ _ _ (any_region_head n hS hseq h))
  unfold noDefer at hd
  have := List.all_eq_true.1 hd o (by
    rw [List.getElem?_toArray] at hi
    exact List.mem_of_getElem? hi)
  rw [hc] at this
  cases this
end Go.Proofs.YtoladolgmeanhaaGreat

/- A range over a function whose rounds begin with memory of their own (a variable of the round that lies in memory): the law of Turns, where assigning makes blocks. Nothing here speaks of one program. -/
namespace Go.Proofs.YtoladolgmeanhaaGreat
open Go.RowKit

theorem wpIn_rangeFunc_made {α : Type} {P : Program} {g : Operand} {ps : Array Tmp} {assign body : Code} {Q : Exit → Act → World → Prop} {a : Act} {w : World}
    {gf : Nat} {lb : Array Value} (hg : a.eval g = .func (.func gf) #[] lb) (eg : ∀ args w, (callFunc gf args).run P w = .ok (.enter gf args) w)
    {El : World → World → (Nat → Prop) → α → Array Value → Prop} {R : Nat → Prop} {xs : List α} {w0 : World} (hseq : Iter P gf lb El R xs w0)
    (hs0 : w0.heap.size ≤ w.heap.size) (hR : ∀ b, R b → b < w.heap.size ∧ w.heap[b]? = w0.heap[b]?) (Vs : Array Value → Prop) (asg : Array Value → World → World) (hps : ∀ Wp W T x vs, El Wp W T x vs → vs.size = ps.size ∧ Vs vs) (hasg : ∀ vs W, Vs vs → Below W.heap.size W (asg vs W))
    (I : List α → (Nat → Prop) → World → Prop) (Ix : Code → List α → (Nat → Prop) → World → Prop) (h0 : I [] (fun _ => False) w) (a₁ : Array Value → World → Act)
    (hassign : ∀ (l : Nat) (vs : Array Value) (W : World) (K : Act → World → Prop), Vs vs → K (a₁ vs W) (asg vs W) →
      assign.wpIn (Fence.wide.inRound l) 0 P (Exit.then K (fun _ _ _ => False)) { tmps := (ps.zip vs).foldl (fun t (p, v) => t.setIfInBounds p v) a.tmps, defers := [] } W)
    (hbody : ∀ (pre : List α) (x : α) (rest : List α) (Tp T : Nat → Prop) (Wq Wp W1 W2 : World) (vs : Array Value), xs = pre ++ x :: rest → I pre Tp Wq → Turns (fun b => b = w.heap.size + 1 ∨ b = w.heap.size) Wq Wp → Wq.heap.size ≤ Wp.heap.size → Wp.heap.size ≤ W1.heap.size →
      Turns (fun b => Tp b ∨ b = w.heap.size + 1 ∨ b = w.heap.size) Wq W2 → (∀ b, Tp b → w.heap.size + 1 < b ∧ b < Wp.heap.size) → (∀ b, T b → Tp b ∨ Wp.heap.size ≤ b) → (∀ b, T b → w.heap.size + 1 < b ∧ b < W2.heap.size) → (∀ b, R b → W2.heap[b]? = w0.heap[b]?) → El Wp W1 T x vs →
      Turns (fun b => b = w.heap.size + 1) W1 W2 → W1.heap.size ≤ W2.heap.size → Turns (fun b => b = w.heap.size + 1) (asg vs W1) W2 → w.heap.size + 1 < W2.heap.size → (∃ r, W1.heap[w.heap.size + 1]? = some (.loop r)) → (W2.heap[w.heap.size]? = some (.deferred (some []))) → (∃ r, W2.heap[w.heap.size + 1]? = some (.loop r)) →
      body.wpIn (Fence.wide.inRound (w.heap.size + 1)) 0 P (roundEnds R I Ix T (w.heap.size + 1) w.heap.size (pre ++ [x]) W2) (a₁ vs W1) W2)
    (hdone : ∀ (Tp : Nat → Prop) (Wq W : World), I xs Tp Wq → Turns (fun b => Tp b ∨ b = w.heap.size + 1 ∨ b = w.heap.size) Wq W → (∀ b, Tp b → w.heap.size + 1 < b) → w.heap.size + 1 < W.heap.size → W.heap[w.heap.size]? = some (.deferred (some [])) →
      Q .normal { a with defers := { target := .collected w.heap.size, args := #[] } :: a.defers } W)
    (hstop : ∀ (c : Code) (pre : List α) (Tp : Nat → Prop) (Wq W : World), pre <+: xs → Ix c pre Tp Wq → Turns (fun b => Tp b ∨ b = w.heap.size + 1 ∨ b = w.heap.size) Wq W → (∀ b, Tp b → w.heap.size + 1 < b) → w.heap.size + 1 < W.heap.size → W.heap[w.heap.size]? = some (.deferred (some [])) →
      c.wpIn Fence.wide 0 P Q { a with defers := { target := .collected w.heap.size, args := #[] } :: a.defers } W) :
    (Code.rangeFunc g ps assign body).wpIn Fence.wide 0 P Q a w := by
  refine wpIn_rangeFunc ?_
  intro fn hfn
  rw [show Fence.wide.round = none from rfl]
  obtain ⟨rec, hrec⟩ : ∃ rec : LoopState → Option Code → Loop, rec = fun st pe => { state := st, pending := pe, fn, tmps := a.tmps, params := ps, assign, body, defers := w.heap.size } := ⟨_, rfl⟩
  obtain ⟨W1, hW1⟩ : ∃ W1, (w.alloc (.deferred (some []))).alloc (.loop (rec .ready none)) = W1 := ⟨_, rfl⟩
  have hL1 : W1.heap[w.heap.size + 1]? = some (.loop (rec .ready none)) := by
    rw [← hW1]; have := World.alloc_heap_new (w.alloc (.deferred (some []))) (.loop (rec .ready none)); rwa [World.size_alloc] at this
  have hK1 : W1.heap[w.heap.size]? = some (.deferred (some [])) := by
    rw [← hW1]; exact (Below.heap_alloc _ _ _ (by simp)).trans (World.alloc_heap_new w _)
  have hb1 : Below w.heap.size w W1 := by rw [← hW1]; exact (((Below.refl _ w).alloc (Nat.le_refl _) _).alloc (by simp) _)
  refine ⟨w.heap.size + 1, [{ target := .collected w.heap.size, args := #[] }], W1, { target := .fn (.func gf) lb, args := #[.func (.yield (w.heap.size + 1)) #[] #[]] }, W1, gf,
    #[.func (.yield (w.heap.size + 1)) #[] #[]] ++ lb, W1, ?_, ?_, ?_, ?_, fun h => by simp [Fence.wide] at h, ?_⟩
  · rw [← hW1, hrec]; exact run_enterLoop_outer _ _ _ _ _
  · simp only [resolve, hg]
    simp [go_sem]
  · intro f' _; trivial
  · simp [invoke, go_sem, eg]
  · refine (hseq (w.heap.size + 1)
      (fun pre T W => ∃ Wq, I pre T Wq ∧ Turns (fun b => b = w.heap.size + 1 ∨ b = w.heap.size) Wq W ∧ W.heap[w.heap.size + 1]? = some (.loop (rec .ready none)) ∧ W.heap[w.heap.size]? = some (.deferred (some [])) ∧ (∀ b, T b → w.heap.size + 1 < b ∧ b < W.heap.size) ∧ (∀ b, R b → W.heap[b]? = w0.heap[b]?))
      (fun pre T W => ∃ Wq c, Ix c pre T Wq ∧ Turns (fun b => b = w.heap.size + 1 ∨ b = w.heap.size) Wq W ∧ W.heap[w.heap.size + 1]? = some (.loop (rec .done (some c))) ∧ W.heap[w.heap.size]? = some (.deferred (some [])) ∧ (∀ b, T b → w.heap.size + 1 < b))
      W1 (Nat.le_trans hs0 hb1.size) (fun b hb => (hb1.block b (hR b hb).1).trans (hR b hb).2)
      ⟨w, h0, ⟨hb1.os, hb1.tape, hb1.output, hb1.size, fun i hi _ => hb1.block i hi⟩, hL1, hK1, fun _ h => h.elim, fun b hb => (hb1.block b (hR b hb).1).trans (hR b hb).2⟩
      ?_).mono ?_
    · -- one round
      rintro pre x rest Tp T Wp W vs hx ⟨Wq, hi, hqp, hl, hk, hTp, hRp⟩ hturn hT hTlt hRW hel
      have hlp : w.heap.size + 1 < Wp.heap.size := (Array.getElem?_eq_some_iff.1 hl).1
      have nL : ¬ Tp (w.heap.size + 1) := fun h => by have := (hTp _ h).1; omega
      have nD : ¬ Tp w.heap.size := fun h => by have := (hTp _ h).1; omega
      have hlW : W.heap[w.heap.size + 1]? = some (.loop (rec .ready none)) := (hturn.block _ hlp nL).trans hl
      have hkW : W.heap[w.heap.size]? = some (.deferred (some [])) := (hturn.block _ (by omega) nD).trans hk
      have hlt : w.heap.size + 1 < W.heap.size := (Array.getElem?_eq_some_iff.1 hlW).1
      obtain ⟨hvs, hVs⟩ := hps _ _ _ _ _ hel
      have hy := run_yield (P := P) (args := vs) hlW (by rw [hrec]; exact hvs)
      rw [hrec] at hy
      refine ⟨fn, _, assign, body, hy, roundIn_of_wpIn hfn (hassign _ vs W _ hVs ?_)⟩
      clear hy
      have hba := hasg vs W hVs
      obtain ⟨Wa, hWa⟩ : ∃ Wa, asg vs W = Wa := ⟨_, rfl⟩
      have hbody' := hbody pre x rest Tp T Wq Wp W
      rw [hWa] at hba ⊢
      have hlA : Wa.heap[w.heap.size + 1]? = some (.loop (rec .ready none)) := (hba.block _ hlt).trans hlW
      have hkA : Wa.heap[w.heap.size]? = some (.deferred (some [])) := (hba.block _ (by omega)).trans hkW
      have hltA : w.heap.size + 1 < Wa.heap.size := Nat.lt_of_lt_of_le hlt hba.size
      refine ⟨_, run_beginRound hlA (by rw [hrec]), ?_⟩
      have hT' : ∀ b, T b → w.heap.size + 1 < b ∧ b < W.heap.size := fun b hb => by
        refine ⟨?_, hTlt b hb⟩
        rcases hT b hb with h | h
        · exact (hTp b h).1
        · omega
      have hl2 : (Wa.putObj (w.heap.size + 1) (.loop { rec .ready none with state := .busy })).heap[w.heap.size + 1]? = some (.loop { rec .ready none with state := .busy }) := World.putObj_heap_same hltA
      have hk2 : (Wa.putObj (w.heap.size + 1) (.loop { rec .ready none with state := .busy })).heap[w.heap.size]? = some (.deferred (some [])) := (World.putObj_heap_other (by omega)).trans hkA
      have hR2 : ∀ b, R b → (Wa.putObj (w.heap.size + 1) (.loop { rec .ready none with state := .busy })).heap[b]? = w0.heap[b]? := fun b hb => (World.putObj_heap_other (by have := (hR b hb).1; omega)).trans ((hba.block b (by have := (hR b hb).1; omega)).trans (hRW b hb))
      refine wpIn_mono (hbody' _ vs hx hi hqp hqp.size hturn.size
        ((((hqp.mono (fun i _ h => Or.inr h)).trans (hturn.mono (fun i _ h => Or.inl h))).trans (Turns.of_below' hba)).trans (Turns.put _ _ _ (Or.inr (Or.inl rfl)))) hTp hT (fun b hb => by have h1 := hT' b hb; have h2 := hba.size; exact ⟨h1.1, by simp; omega⟩)
        hR2 hel ((Turns.of_below' hba).trans (Turns.put _ _ _ rfl)) (by simpa using hba.size) (by rw [hWa]; exact Turns.put _ _ _ rfl) (by simpa using hltA) ⟨_, hlW⟩ hk2 ⟨_, hl2⟩) ?_
      have fin : ∀ (jump : Option Code) (W3 : World), (∀ b, b = w.heap.size + 1 ∨ b = w.heap.size → W3.heap[b]? = (Wa.putObj (w.heap.size + 1) (.loop { rec .ready none with state := .busy })).heap[b]?) →
          (Instr.endRound (w.heap.size + 1) jump).run P W3 = .ok (.bool jump.isNone) (W3.putObj (w.heap.size + 1) (.loop (rec (if jump.isNone then .ready else .done) jump))) ∧
          (W3.putObj (w.heap.size + 1) (.loop (rec (if jump.isNone then .ready else .done) jump))).heap[w.heap.size + 1]? = some (.loop (rec (if jump.isNone then .ready else .done) jump)) ∧
          (W3.putObj (w.heap.size + 1) (.loop (rec (if jump.isNone then .ready else .done) jump))).heap[w.heap.size]? = some (.deferred (some [])) ∧
          Turns (fun b => b = w.heap.size + 1 ∨ b = w.heap.size) W3 (W3.putObj (w.heap.size + 1) (.loop (rec (if jump.isNone then .ready else .done) jump))) := fun jump W3 hk3 => by
        have hl3 := (hk3 _ (Or.inl rfl)).trans hl2
        have := run_endRound (P := P) jump hl3
        rw [hrec] at this ⊢
        exact ⟨this, World.putObj_heap_same (Array.getElem?_eq_some_iff.1 hl3).1, (World.putObj_heap_other (by omega)).trans ((hk3 _ (Or.inr rfl)).trans hk2), Turns.put _ _ _ (Or.inl rfl)⟩
      have hkeep : ∀ (jump : Option Code) (W3 : World), (∀ b, R b ∨ T b ∨ b = w.heap.size + 1 ∨ b = w.heap.size → W3.heap[b]? = (Wa.putObj (w.heap.size + 1) (.loop { rec .ready none with state := .busy })).heap[b]?) → ∀ b, R b ∨ T b → (W3.putObj (w.heap.size + 1) (.loop (rec (if jump.isNone then .ready else .done) jump))).heap[b]? = W.heap[b]? := fun jump W3 hk3 b hb => by
        have hne : b ≠ w.heap.size + 1 := by
          rcases hb with hb | hb
          · have := (hR b hb).1; omega
          · have := (hT' b hb).1; omega
        exact (World.putObj_heap_other hne).trans ((hk3 b (hb.elim Or.inl (fun h => Or.inr (Or.inl h)))).trans ((World.putObj_heap_other hne).trans (hba.block b (by
          rcases hb with hb | hb
          · have := (hR b hb).1; omega
          · exact (hT' b hb).2))))
      rintro e a3 W3 hp
      cases e with
      | normal =>
        obtain ⟨hi3, hsz3, hk3⟩ := hp
        obtain ⟨hr, hl4, hk4, ht4⟩ := fin none W3 (fun b hb => hk3 b (Or.inr (Or.inr hb)))
        have hsz' : W.heap.size ≤ W3.heap.size := Nat.le_trans hba.size (by simpa using hsz3)
        have hkeep := hkeep none W3 hk3
        exact ⟨_, _, hr, .inl ⟨rfl, ⟨W3, hi3, ht4, hl4, hk4, fun b hb => ⟨(hT' b hb).1, by simp; have := (hT' b hb).2; omega⟩, fun b hb => (hkeep b (Or.inl hb)).trans (hRW b hb)⟩, by simpa using hsz', hkeep⟩⟩
      | ret =>
        obtain ⟨hi3, hsz3, hk3⟩ := hp
        obtain ⟨hr, hl4, hk4, ht4⟩ := fin (some .ret) W3 (fun b hb => hk3 b (Or.inr (Or.inr hb)))
        exact ⟨_, _, hr, .inr ⟨rfl, ⟨W3, .ret, hi3, ht4, hl4, hk4, fun b hb => (hT' b hb).1⟩, Nat.le_trans hba.size (by simpa using hsz3), hkeep (some .ret) W3 hk3⟩⟩
      | exit id =>
        obtain ⟨hi3, hsz3, hk3⟩ := hp
        obtain ⟨hr, hl4, hk4, ht4⟩ := fin (some (.exit id)) W3 (fun b hb => hk3 b (Or.inr (Or.inr hb)))
        exact ⟨_, _, hr, .inr ⟨rfl, ⟨W3, .exit id, hi3, ht4, hl4, hk4, fun b hb => (hT' b hb).1⟩, Nat.le_trans hba.size (by simpa using hsz3), hkeep (some (.exit id)) W3 hk3⟩⟩
      | goto t =>
        obtain ⟨hi3, hsz3, hk3⟩ := hp
        obtain ⟨hr, hl4, hk4, ht4⟩ := fin (some (.goto t)) W3 (fun b hb => hk3 b (Or.inr (Or.inr hb)))
        exact ⟨_, _, hr, .inr ⟨rfl, ⟨W3, .goto t, hi3, ht4, hl4, hk4, fun b hb => (hT' b hb).1⟩, Nat.le_trans hba.size (by simpa using hsz3), hkeep (some (.goto t)) W3 hk3⟩⟩
      | panic ch => exact hp.elim
      | outgrown => exact hp.elim
    · -- behind the iterator
      rintro e W2 ⟨⟨v, rfl⟩, (⟨Tp, Wp, ⟨Wq, hi, hqp, hl, hk, hTp, hRp⟩, hturn⟩ | ⟨pre, Tp, Wp, hpre, ⟨Wq, c, hi, hqp, hl, hk, hTp⟩, hturn⟩)⟩
      · have hlp : w.heap.size + 1 < Wp.heap.size := (Array.getElem?_eq_some_iff.1 hl).1
        have hl2 := (hturn.block _ hlp (fun h => by have := (hTp _ h).1; omega)).trans hl
        have hk2 := (hturn.block w.heap.size (by omega) (fun h => by have := (hTp _ h).1; omega)).trans hk
        refine ⟨none, _, by have := run_endLoop (P := P) hl2 (by rw [hrec]; simp); rw [hrec] at this; exact this, ?_⟩
        refine hdone Tp Wq _ hi (((hqp.mono (fun i _ h => Or.inr h)).trans (hturn.mono (fun i _ h => Or.inl h))).trans (Turns.put _ _ _ (Or.inr (Or.inl rfl)))) (fun b hb => (hTp b hb).1) ?_ ((World.putObj_heap_other (by omega)).trans hk2)
        simp; exact (Array.getElem?_eq_some_iff.1 hl2).1
      · have hlp : w.heap.size + 1 < Wp.heap.size := (Array.getElem?_eq_some_iff.1 hl).1
        have hl2 := (hturn.block _ hlp (fun h => by have := (hTp _ h); omega)).trans hl
        have hk2 := (hturn.block w.heap.size (by omega) (fun h => by have := (hTp _ h); omega)).trans hk
        refine ⟨some c, _, by have := run_endLoop (P := P) hl2 (by rw [hrec]; simp); rw [hrec] at this; exact this, ?_⟩
        refine hstop c pre Tp Wq _ hpre hi (((hqp.mono (fun i _ h => Or.inr h)).trans (hturn.mono (fun i _ h => Or.inl h))).trans (Turns.put _ _ _ (Or.inr (Or.inl rfl)))) (fun b hb => (hTp b hb)) ?_ ((World.putObj_heap_other (by omega)).trans hk2)
        simp; exact (Array.getElem?_eq_some_iff.1 hl2).1
end Go.Proofs.YtoladolgmeanhaaGreat
