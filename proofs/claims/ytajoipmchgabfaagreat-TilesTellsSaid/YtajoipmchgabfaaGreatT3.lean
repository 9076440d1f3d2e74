/- Several texts in one, each with its own head. -/
import Derived.Test.YtajoipmchgabfaaGreatT2
import Derived.Test.YtajoipmchgabfaaGreatT1
import Derived.RangeFuncNested
import Derived.RangeFuncBound
import Derived.RangeFuncLeaves
/- More plain facts on rectangles: Or, and what is in what. -/
namespace Go.Proofs.YtajoipmchgabfaaGreat

theorem or_spec (r s : Rc) : (emptyR r = true ∧ emptyR s = true ∧ orR r s = zeroRc) ∨ (emptyR r = true ∧ emptyR s = false ∧ orR r s = s) ∨ (emptyR r = false ∧ emptyR s = true ∧ orR r s = r) ∨ (emptyR r = false ∧ emptyR s = false ∧ orR r s = allR r s ∧ emptyR (allR r s) = false) := by
  cases hr : emptyR r <;> cases hs : emptyR s
  · have h1 := emptyR_false.1 hr
    have h2 := emptyR_false.1 hs
    exact Or.inr (Or.inr (Or.inr ⟨rfl, rfl, by simp [orR, hr, hs], emptyR_false.2 (by simp only [allR]; omega)⟩))
  · exact Or.inr (Or.inr (Or.inl ⟨rfl, rfl, by simp [orR, hr, hs]⟩))
  · exact Or.inr (Or.inl ⟨rfl, rfl, by simp [orR, hr, hs]⟩)
  · exact Or.inl ⟨rfl, rfl, by simp [orR, hr, hs]⟩

theorem or_comm' (r s : Rc) : orR s r = orR r s := by
  rcases or_spec r s with ⟨a1, a2, e⟩ | ⟨a1, a2, e⟩ | ⟨a1, a2, e⟩ | ⟨a1, a2, e, _⟩ <;> rw [e]
  · simp [orR, a1, a2]
  · simp [orR, a1, a2]
  · simp [orR, a1, a2]
  · simp only [orR, a1, a2, Bool.false_eq_true, if_false]
    apply Rc.eq_of <;> simp only [allR] <;> omega

theorem or_fit {r s : Rc} (hr : Fit r) (hs : Fit s) : Fit (orR r s) := by
  rcases or_spec r s with ⟨a1, a2, e⟩ | ⟨a1, a2, e⟩ | ⟨a1, a2, e⟩ | ⟨a1, a2, e, h⟩ <;> rw [e]
  · exact ⟨by decide, by decide⟩
  · exact hs
  · exact hr
  · have := emptyR_false.1 h
    exact ⟨by omega, by omega⟩

theorem in_or_left (r s : Rc) : inR r (orR r s) = true := by
  rw [in_iff]
  rcases or_spec r s with ⟨a1, a2, e⟩ | ⟨a1, a2, e⟩ | ⟨a1, a2, e⟩ | ⟨a1, a2, e, h⟩
  · exact Or.inl a1
  · exact Or.inl a1
  · rw [e]; exact Or.inr ⟨a1, a1, by omega, by omega, by omega, by omega⟩
  · rw [e]; refine Or.inr ⟨a1, h, ?_⟩
    simp only [allR]; omega
theorem in_or_right (r s : Rc) : inR s (orR r s) = true := by rw [← or_comm' r s]; exact in_or_left s r

theorem in_and_left (r s : Rc) : inR (andR r s) r = true := by
  rw [in_iff]
  rcases and_spec r s with ⟨e, _⟩ | ⟨e, a1, a2, a3, a4, h⟩
  · rw [e]; exact Or.inl zero_empty
  · rw [e]; refine Or.inr ⟨h, a1, ?_⟩
    simp only [midR]; omega
theorem in_and_right (r s : Rc) : inR (andR r s) s = true := by rw [and_comm]; exact in_and_left s r

theorem in_has {r s : Rc} {x y : Int} (h : inR r s = true) (hp : hasR r x y = true) : hasR s x y = true := by
  rw [in_iff] at h
  rw [has_iff] at hp ⊢
  rcases h with h | ⟨a1, a2, a3⟩
  · rw [hp.1] at h; cases h
  · exact ⟨a2, by omega, by omega⟩

theorem empty_in {r s : Rc} (h : emptyR r = true) : inR r s = true := by rw [in_iff]; exact Or.inl h

theorem area_empty {r : Rc} (h : emptyR r = false) : (areaR r == 0) = false := by
  have := area_pos h
  simp; omega

theorem corner_has {r : Rc} (h : emptyR r = false) : hasR r r.x r.y = true ∧ hasR r (r.x + r.a - 1) (r.y + r.b - 1) = true ∧ hasR r (r.x - 1) r.y = false ∧ hasR r r.x (r.y + r.b) = false := by
  have h0 := emptyR_false.1 h
  have neg : ∀ x y, ¬ ((r.x ≤ x ∧ x < r.x + r.a) ∧ (r.y ≤ y ∧ y < r.y + r.b)) → hasR r x y = false := fun x y hn => by
    cases hh : hasR r x y
    · rfl
    · exact absurd (has_iff.1 hh).2 hn
  exact ⟨has_iff.2 ⟨h, by omega, by omega⟩, has_iff.2 ⟨h, by omega, by omega⟩, neg _ _ (by omega), neg _ _ (by omega)⟩

/-- Of all rectangles that have both, Or is the least. -/
theorem or_least {r s t : Rc} (hr : inR r t = true) (hs : inR s t = true) : inR (orR r s) t = true := by
  rw [in_iff] at *
  rcases or_spec r s with ⟨a1, a2, e⟩ | ⟨a1, a2, e⟩ | ⟨a1, a2, e⟩ | ⟨a1, a2, e, h⟩ <;> rw [e]
  · exact Or.inl zero_empty
  · exact hs
  · exact hr
  · rcases hr with hr | ⟨b1, b2, b3⟩
    · rw [a1] at hr; cases hr
    · rcases hs with hs | ⟨c1, c2, c3⟩
      · rw [a2] at hs; cases hs
      · refine Or.inr ⟨h, b2, ?_⟩
        simp only [allR]; omega

theorem or_assoc_full {r s t : Rc} (hr : emptyR r = false) (hs : emptyR s = false) (ht : emptyR t = false) : orR (orR r s) t = orR r (orR s t) := by
  have h1 := emptyR_false.1 hr
  have h2 := emptyR_false.1 hs
  have h3 := emptyR_false.1 ht
  have e1 : orR r s = allR r s := by simp [orR, hr, hs]
  have e2 : orR s t = allR s t := by simp [orR, hs, ht]
  have m1 : emptyR (allR r s) = false := emptyR_false.2 (by simp only [allR]; omega)
  have m2 : emptyR (allR s t) = false := emptyR_false.2 (by simp only [allR]; omega)
  rw [e1, e2]
  simp only [orR, hr, ht, m1, m2, Bool.false_eq_true, if_false]
  simp only [allR, add_sub_back]
  rw [Int.min_assoc, Int.min_assoc, Int.max_assoc, Int.max_assoc]

end Go.Proofs.YtajoipmchgabfaaGreat

/- Worlds that turn but in named blocks (Turns), and a law for a range over a function whose iterator keeps state of its own in memory: each side writes its own blocks alone. Nothing here speaks of one program. -/
namespace Go.Proofs.YtajoipmchgabfaaGreat
open Go.RowKit

/-- From w to w': new blocks; and of the blocks that were there, none has turned but those of T. -/
structure Turns (T : Nat → Prop) (w w' : World) : Prop where
  os : w'.os = w.os
  tape : w'.tape = w.tape
  output : w'.output = w.output
  size : w.heap.size ≤ w'.heap.size
  block : ∀ k, k < w.heap.size → ¬ T k → w'.heap[k]? = w.heap[k]?

theorem Turns.refl (T : Nat → Prop) (w : World) : Turns T w w := ⟨rfl, rfl, rfl, Nat.le_refl _, fun _ _ _ => rfl⟩
theorem Turns.trans {T : Nat → Prop} {a b c : World} (h : Turns T a b) (k : Turns T b c) : Turns T a c :=
  ⟨k.os.trans h.os, k.tape.trans h.tape, k.output.trans h.output, Nat.le_trans h.size k.size, fun i hi hn => (k.block i (Nat.lt_of_lt_of_le hi h.size) hn).trans (h.block i hi hn)⟩
/-- .. where T may have grown by blocks that were not there at first. -/
theorem Turns.trans' {T T' : Nat → Prop} {a b c : World} (h : Turns T a b) (k : Turns T' b c) (hT : ∀ i, i < a.heap.size → T' i → T i) : Turns T a c :=
  ⟨k.os.trans h.os, k.tape.trans h.tape, k.output.trans h.output, Nat.le_trans h.size k.size, fun i hi hn => (k.block i (Nat.lt_of_lt_of_le hi h.size) (fun ht => hn (hT i hi ht))).trans (h.block i hi hn)⟩
theorem Turns.mono {T T' : Nat → Prop} {a b : World} (h : Turns T a b) (hT : ∀ i, i < a.heap.size → T i → T' i) : Turns T' a b :=
  ⟨h.os, h.tape, h.output, h.size, fun i hi hn => h.block i hi (fun ht => hn (hT i hi ht))⟩
theorem Turns.of_below {B : Nat} {a b : World} (h : Below B a b) : Turns (fun i => B ≤ i) a b := ⟨h.os, h.tape, h.output, h.size, fun i _ hn => h.block i (by omega)⟩
theorem Turns.of_below' {T : Nat → Prop} {a b : World} (h : Below a.heap.size a b) : Turns T a b := ⟨h.os, h.tape, h.output, h.size, fun i hi _ => h.block i hi⟩
theorem Turns.below {T : Nat → Prop} {a b : World} (h : Turns T a b) {B : Nat} (hB : B ≤ a.heap.size) (hT : ∀ i, T i → B ≤ i) : Below B a b :=
  ⟨h.os, h.tape, h.output, h.size, fun i hi => h.block i (by omega) (fun ht => by have := hT i ht; omega)⟩
theorem Turns.of_grown {T : Nat → Prop} {a b : World} {row : Option Nat} (h : a.grownBy b row) (hT : ∀ i, row = some i → T i) : Turns T a b :=
  ⟨h.os, h.tape, h.output, h.size, fun i hi hn => h.block i hi (fun e => hn (hT i e.symm))⟩
theorem Turns.put {T : Nat → Prop} (w : World) (l : Nat) (o : Obj) (hl : T l) : Turns T w (w.putObj l o) :=
  ⟨rfl, rfl, rfl, by simp, fun i _ hn => World.putObj_heap_other (fun e => hn (e ▸ hl))⟩
theorem Turns.alloc {T : Nat → Prop} {a b : World} (h : Turns T a b) (o : Obj) : Turns T a (b.alloc o) :=
  h.trans (Turns.of_below' ((Below.refl _ b).alloc (Nat.le_refl _) o))
theorem Turns.cell {T : Nat → Prop} {a b : World} (h : Turns T a b) {p : Addr} {v : Value} (hc : a.cell? p = some v) (hn : ¬ T p.block) : b.cell? p = some v :=
  (World.cell?_of_block (h.block p.block (World.block_lt_of_cell? a p hc) hn)).trans hc
theorem Turns.free {T : Nat → Prop} {a b : World} (h : Turns T a b) {p : Addr} {v : Value} (hc : a.cell? p = some v) (hf : a.frozen? p = false) (hn : ¬ T p.block) : b.frozen? p = false :=
  (World.frozen?_of_block (h.block p.block (World.block_lt_of_cell? a p hc) hn)).trans hf
theorem Turns.boxed {T : Nat → Prop} {a b : World} (h : Turns T a b) {B : Nat} {t : TypeId} {v : Value} (hc : Boxed a B t v) (hn : ¬ T B) : Boxed b B t v := (h.block B hc.lt hn).trans hc
theorem Turns.owns {T : Nat → Prop} {a b : World} (h : Turns T a b) {base : Nat} {e : TypeId} {size : Nat} {v : Value} {n : Nat} {xs : List Value} (hc : a.ownsRow base e size v n xs) (hn : ∀ k, v.ownBlock = some k → ¬ T k) : b.ownsRow base e size v n xs := by
  refine ⟨hc.1, ?_⟩
  rcases hc.2 with hn' | ⟨g, cap, cur, rfl, hb, hgg, rest⟩
  · exact .inl hn'
  · exact .inr ⟨g, cap, cur, rfl, hb, (h.block g (Array.getElem?_eq_some_iff.1 hgg).1 (hn g rfl)).trans hgg, rest⟩

/-- The contract of an iterator value: it hands over xs, in their order. R: blocks that it reads, and that nobody may turn meanwhile. T: blocks of its own, which it may turn between two rounds, and which a round leaves alone. Wp: the world in which the last round ended. -/
def Iter {α : Type} (P : Program) (g : Nat) (lb : Array Value) (El : World → World → (Nat → Prop) → α → Array Value → Prop) (R : Nat → Prop) (xs : List α) (w : World) : Prop :=
  ∀ (l : Nat) (J Jx : List α → (Nat → Prop) → World → Prop) (W : World), w.heap.size ≤ W.heap.size → (∀ b, R b → W.heap[b]? = w.heap[b]?) → J [] (fun _ => False) W →
    (∀ pre x rest Tp T Wp W1 vs, xs = pre ++ x :: rest → J pre Tp Wp → Turns Tp Wp W1 → (∀ b, T b → Tp b ∨ Wp.heap.size ≤ b) → (∀ b, T b → b < W1.heap.size) → (∀ b, R b → W1.heap[b]? = w.heap[b]?) → El Wp W1 T x vs →
      YieldAt Fence.wide 0 P l vs W1 fun e W' =>
        (e = .returned (.bool true) ∧ J (pre ++ [x]) T W' ∧ W1.heap.size ≤ W'.heap.size ∧ ∀ b, R b ∨ T b → W'.heap[b]? = W1.heap[b]?) ∨ (e = .returned (.bool false) ∧ Jx (pre ++ [x]) T W' ∧ W1.heap.size ≤ W'.heap.size ∧ ∀ b, R b ∨ T b → W'.heap[b]? = W1.heap[b]?)) →
    CallsIn Fence.wide 0 P g (#[.func (.yield l) #[] #[]] ++ lb) W fun e W' => (∃ v, e = .returned v) ∧
      ((∃ Tp Wp, J xs Tp Wp ∧ Turns Tp Wp W') ∨ (∃ pre Tp Wp, pre <+: xs ∧ Jx pre Tp Wp ∧ Turns Tp Wp W'))

/-- How the body of a round may be left. -/
def roundEnds {α : Type} (R : Nat → Prop) (I : List α → (Nat → Prop) → World → Prop) (Ix : Code → List α → (Nat → Prop) → World → Prop) (T : Nat → Prop) (L D : Nat) (xs : List α) (W : World) : Exit → Act → World → Prop
  | .normal, _, W' => I xs T W' ∧ W.heap.size ≤ W'.heap.size ∧ ∀ b, R b ∨ T b ∨ b = L ∨ b = D → W'.heap[b]? = W.heap[b]?
  | .ret, _, W' => Ix .ret xs T W' ∧ W.heap.size ≤ W'.heap.size ∧ ∀ b, R b ∨ T b ∨ b = L ∨ b = D → W'.heap[b]? = W.heap[b]?
  | .exit id, _, W' => Ix (.exit id) xs T W' ∧ W.heap.size ≤ W'.heap.size ∧ ∀ b, R b ∨ T b ∨ b = L ∨ b = D → W'.heap[b]? = W.heap[b]?
  | .goto t, _, W' => Ix (.goto t) xs T W' ∧ W.heap.size ≤ W'.heap.size ∧ ∀ b, R b ∨ T b ∨ b = L ∨ b = D → W'.heap[b]? = W.heap[b]?
  | .panic _, _, _ => False
  | .outgrown, _, _ => False

/-- The law: 'for .. := range g { body }'. -/
theorem wpIn_rangeFunc_turns {α : Type} {P : Program} {g : Operand} {ps : Array Tmp} {assign body : Code} {Q : Exit → Act → World → Prop} {a : Act} {w : World}
    {gf : Nat} {lb : Array Value} (hg : a.eval g = .func (.func gf) #[] lb) (eg : ∀ args w, (callFunc gf args).run P w = .ok (.enter gf args) w)
    {El : World → World → (Nat → Prop) → α → Array Value → Prop} {R : Nat → Prop} {xs : List α} {w0 : World} (hseq : Iter P gf lb El R xs w0)
    (hs0 : w0.heap.size ≤ w.heap.size) (hR : ∀ b, R b → b < w.heap.size ∧ w.heap[b]? = w0.heap[b]?) (hps : ∀ Wp W T x vs, El Wp W T x vs → vs.size = ps.size)
    (I : List α → (Nat → Prop) → World → Prop) (Ix : Code → List α → (Nat → Prop) → World → Prop) (h0 : I [] (fun _ => False) w) (a₁ : Array Value → Act)
    (hassign : ∀ (l : Nat) (vs : Array Value) (W : World) (K : Act → World → Prop), vs.size = ps.size → K (a₁ vs) W →
      assign.wpIn (Fence.wide.inRound l) 0 P (Exit.then K (fun _ _ _ => False)) { tmps := (ps.zip vs).foldl (fun t (p, v) => t.setIfInBounds p v) a.tmps, defers := [] } W)
    (hbody : ∀ (pre : List α) (x : α) (rest : List α) (Tp T : Nat → Prop) (Wq Wp W1 W2 : World) (vs : Array Value), xs = pre ++ x :: rest → I pre Tp Wq → Turns (fun b => b = w.heap.size + 1 ∨ b = w.heap.size) Wq Wp → Wq.heap.size ≤ Wp.heap.size →
      Turns (fun b => Tp b ∨ b = w.heap.size + 1 ∨ b = w.heap.size) Wq W2 → (∀ b, Tp b → w.heap.size + 1 < b ∧ b < Wp.heap.size) → (∀ b, T b → Tp b ∨ Wp.heap.size ≤ b) → (∀ b, T b → w.heap.size + 1 < b ∧ b < W2.heap.size) → (∀ b, R b → W2.heap[b]? = w0.heap[b]?) → El Wp W1 T x vs →
      Turns (fun b => b = w.heap.size + 1) W1 W2 → W1.heap.size = W2.heap.size → w.heap.size + 1 < W2.heap.size → (∃ r, W1.heap[w.heap.size + 1]? = some (.loop r)) → (W2.heap[w.heap.size]? = some (.deferred (some []))) → (∃ r, W2.heap[w.heap.size + 1]? = some (.loop r)) →
      body.wpIn (Fence.wide.inRound (w.heap.size + 1)) 0 P (roundEnds R I Ix T (w.heap.size + 1) w.heap.size (pre ++ [x]) W2) (a₁ vs) W2)
    (hdone : ∀ (Tp : Nat → Prop) (Wq W : World), I xs Tp Wq → Turns (fun b => Tp b ∨ b = w.heap.size + 1 ∨ b = w.heap.size) Wq W → (∀ b, Tp b → w.heap.size + 1 < b) → w.heap.size + 1 < W.heap.size → W.heap[w.heap.size]? = some (.deferred (some [])) →
      Q .normal { a with defers := { target := .collected w.heap.size, args := #[] } :: a.defers } W)
    (hstop : ∀ (c : Code) (pre : List α) (Tp : Nat → Prop) (Wq W : World), pre <+: xs → Ix c pre Tp Wq → Turns (fun b => Tp b ∨ b = w.heap.size + 1 ∨ b = w.heap.size) Wq W → (∀ b, Tp b → w.heap.size + 1 < b) → w.heap.size + 1 < W.heap.size → W.heap[w.heap.size]? = some (.deferred (some [])) →
      c.wpIn Fence.wide 0 P Q { a with defers := { target := .collected w.heap.size, args := #[] } :: a.defers } W) :
    (Code.rangeFunc g ps assign body).wpIn Fence.wide 0 P Q a w := by
  refine wpIn_rangeFunc ?_
  intro fn hfn
  rw [show Fence.wide.round = none from rfl]
  obtain ⟨rec, hrec⟩ : ∃ rec : LoopState → Option Code → Loop, rec = fun st pe => { state := st, pending := pe, fn, tmps := a.tmps, params := ps, assign, body, defers := w.heap.size } := ⟨_, rfl⟩
  obtain ⟨W1, hW1⟩ : ∃ W1, (w.alloc (.deferred (some []))).alloc (.loop (rec .ready none)) = W1 := ⟨_, rfl⟩
  have hL1 : W1.heap[w.heap.size + 1]? = some (.loop (rec .ready none)) := by
    rw [← hW1]; have := World.alloc_heap_new (w.alloc (.deferred (some []))) (.loop (rec .ready none)); rwa [World.size_alloc] at this
  have hK1 : W1.heap[w.heap.size]? = some (.deferred (some [])) := by
    rw [← hW1]; exact (Below.heap_alloc _ _ _ (by simp)).trans (World.alloc_heap_new w _)
  have hb1 : Below w.heap.size w W1 := by rw [← hW1]; exact (((Below.refl _ w).alloc (Nat.le_refl _) _).alloc (by simp) _)
  refine ⟨w.heap.size + 1, [{ target := .collected w.heap.size, args := #[] }], W1, { target := .fn (.func gf) lb, args := #[.func (.yield (w.heap.size + 1)) #[] #[]] }, W1, gf,
    #[.func (.yield (w.heap.size + 1)) #[] #[]] ++ lb, W1, ?_, ?_, ?_, ?_, fun h => by simp [Fence.wide] at h, ?_⟩
  · rw [← hW1, hrec]; exact run_enterLoop_outer _ _ _ _ _
  · simp only [resolve, hg]
    simp [go_sem]
  · intro f' _; trivial
  · simp [invoke, go_sem, eg]
  · refine (hseq (w.heap.size + 1)
      (fun pre T W => ∃ Wq, I pre T Wq ∧ Turns (fun b => b = w.heap.size + 1 ∨ b = w.heap.size) Wq W ∧ W.heap[w.heap.size + 1]? = some (.loop (rec .ready none)) ∧ W.heap[w.heap.size]? = some (.deferred (some [])) ∧ (∀ b, T b → w.heap.size + 1 < b ∧ b < W.heap.size) ∧ (∀ b, R b → W.heap[b]? = w0.heap[b]?))
      (fun pre T W => ∃ Wq c, Ix c pre T Wq ∧ Turns (fun b => b = w.heap.size + 1 ∨ b = w.heap.size) Wq W ∧ W.heap[w.heap.size + 1]? = some (.loop (rec .done (some c))) ∧ W.heap[w.heap.size]? = some (.deferred (some [])) ∧ (∀ b, T b → w.heap.size + 1 < b))
      W1 (Nat.le_trans hs0 hb1.size) (fun b hb => (hb1.block b (hR b hb).1).trans (hR b hb).2)
      ⟨w, h0, ⟨hb1.os, hb1.tape, hb1.output, hb1.size, fun i hi _ => hb1.block i hi⟩, hL1, hK1, fun _ h => h.elim, fun b hb => (hb1.block b (hR b hb).1).trans (hR b hb).2⟩
      ?_).mono ?_
    · -- one round
      rintro pre x rest Tp T Wp W vs hx ⟨Wq, hi, hqp, hl, hk, hTp, hRp⟩ hturn hT hTlt hRW hel
      have hlp : w.heap.size + 1 < Wp.heap.size := (Array.getElem?_eq_some_iff.1 hl).1
      have nL : ¬ Tp (w.heap.size + 1) := fun h => by have := (hTp _ h).1; omega
      have nD : ¬ Tp w.heap.size := fun h => by have := (hTp _ h).1; omega
      have hlW : W.heap[w.heap.size + 1]? = some (.loop (rec .ready none)) := (hturn.block _ hlp nL).trans hl
      have hkW : W.heap[w.heap.size]? = some (.deferred (some [])) := (hturn.block _ (by omega) nD).trans hk
      have hlt : w.heap.size + 1 < W.heap.size := (Array.getElem?_eq_some_iff.1 hlW).1
      have hvs := hps _ _ _ _ _ hel
      have hy := run_yield (P := P) (args := vs) hlW (by rw [hrec]; exact hvs)
      rw [hrec] at hy
      refine ⟨fn, _, assign, body, hy, roundIn_of_wpIn hfn (hassign _ vs W _ hvs ?_)⟩
      clear hy
      refine ⟨_, run_beginRound hlW (by rw [hrec]), ?_⟩
      have hT' : ∀ b, T b → w.heap.size + 1 < b ∧ b < W.heap.size := fun b hb => by
        refine ⟨?_, hTlt b hb⟩
        rcases hT b hb with h | h
        · exact (hTp b h).1
        · omega
      have hl2 : (W.putObj (w.heap.size + 1) (.loop { rec .ready none with state := .busy })).heap[w.heap.size + 1]? = some (.loop { rec .ready none with state := .busy }) := World.putObj_heap_same hlt
      have hk2 : (W.putObj (w.heap.size + 1) (.loop { rec .ready none with state := .busy })).heap[w.heap.size]? = some (.deferred (some [])) := (World.putObj_heap_other (by omega)).trans hkW
      have hR2 : ∀ b, R b → (W.putObj (w.heap.size + 1) (.loop { rec .ready none with state := .busy })).heap[b]? = w0.heap[b]? := fun b hb => (World.putObj_heap_other (by have := (hR b hb).1; omega)).trans (hRW b hb)
      refine wpIn_mono (hbody pre x rest Tp T Wq Wp W _ vs hx hi hqp hqp.size
        (((hqp.mono (fun i _ h => Or.inr h)).trans (hturn.mono (fun i _ h => Or.inl h))).trans (Turns.put _ _ _ (Or.inr (Or.inl rfl)))) hTp hT (fun b hb => by simpa using hT' b hb)
        hR2 hel (Turns.put _ _ _ rfl) (by simp) (by simpa using hlt) ⟨_, hlW⟩ hk2 ⟨_, hl2⟩) ?_
      have fin : ∀ (jump : Option Code) (W3 : World), (∀ b, b = w.heap.size + 1 ∨ b = w.heap.size → W3.heap[b]? = (W.putObj (w.heap.size + 1) (.loop { rec .ready none with state := .busy })).heap[b]?) →
          (Instr.endRound (w.heap.size + 1) jump).run P W3 = .ok (.bool jump.isNone) (W3.putObj (w.heap.size + 1) (.loop (rec (if jump.isNone then .ready else .done) jump))) ∧
          (W3.putObj (w.heap.size + 1) (.loop (rec (if jump.isNone then .ready else .done) jump))).heap[w.heap.size + 1]? = some (.loop (rec (if jump.isNone then .ready else .done) jump)) ∧
          (W3.putObj (w.heap.size + 1) (.loop (rec (if jump.isNone then .ready else .done) jump))).heap[w.heap.size]? = some (.deferred (some [])) ∧
          Turns (fun b => b = w.heap.size + 1 ∨ b = w.heap.size) W3 (W3.putObj (w.heap.size + 1) (.loop (rec (if jump.isNone then .ready else .done) jump))) := fun jump W3 hk3 => by
        have hl3 := (hk3 _ (Or.inl rfl)).trans hl2
        have := run_endRound (P := P) jump hl3
        rw [hrec] at this ⊢
        exact ⟨this, World.putObj_heap_same (Array.getElem?_eq_some_iff.1 hl3).1, (World.putObj_heap_other (by omega)).trans ((hk3 _ (Or.inr rfl)).trans hk2), Turns.put _ _ _ (Or.inl rfl)⟩
      have hkeep : ∀ (jump : Option Code) (W3 : World), (∀ b, R b ∨ T b ∨ b = w.heap.size + 1 ∨ b = w.heap.size → W3.heap[b]? = (W.putObj (w.heap.size + 1) (.loop { rec .ready none with state := .busy })).heap[b]?) → ∀ b, R b ∨ T b → (W3.putObj (w.heap.size + 1) (.loop (rec (if jump.isNone then .ready else .done) jump))).heap[b]? = W.heap[b]? := fun jump W3 hk3 b hb => by
        have hne : b ≠ w.heap.size + 1 := by
          rcases hb with hb | hb
          · have := (hR b hb).1; omega
          · have := (hT' b hb).1; omega
        exact (World.putObj_heap_other hne).trans ((hk3 b (hb.elim Or.inl (fun h => Or.inr (Or.inl h)))).trans (World.putObj_heap_other hne))
      rintro e a3 W3 hp
      cases e with
      | normal =>
        obtain ⟨hi3, hsz3, hk3⟩ := hp
        obtain ⟨hr, hl4, hk4, ht4⟩ := fin none W3 (fun b hb => hk3 b (Or.inr (Or.inr hb)))
        have hsz' : W.heap.size ≤ W3.heap.size := by simpa using hsz3
        have hkeep := hkeep none W3 hk3
        exact ⟨_, _, hr, .inl ⟨rfl, ⟨W3, hi3, ht4, hl4, hk4, fun b hb => ⟨(hT' b hb).1, by simp; have := (hT' b hb).2; omega⟩, fun b hb => (hkeep b (Or.inl hb)).trans (hRW b hb)⟩, by simpa using hsz', hkeep⟩⟩
      | ret =>
        obtain ⟨hi3, hsz3, hk3⟩ := hp
        obtain ⟨hr, hl4, hk4, ht4⟩ := fin (some .ret) W3 (fun b hb => hk3 b (Or.inr (Or.inr hb)))
        exact ⟨_, _, hr, .inr ⟨rfl, ⟨W3, .ret, hi3, ht4, hl4, hk4, fun b hb => (hT' b hb).1⟩, by simpa using hsz3, hkeep (some .ret) W3 hk3⟩⟩
      | exit id =>
        obtain ⟨hi3, hsz3, hk3⟩ := hp
        obtain ⟨hr, hl4, hk4, ht4⟩ := fin (some (.exit id)) W3 (fun b hb => hk3 b (Or.inr (Or.inr hb)))
        exact ⟨_, _, hr, .inr ⟨rfl, ⟨W3, .exit id, hi3, ht4, hl4, hk4, fun b hb => (hT' b hb).1⟩, by simpa using hsz3, hkeep (some (.exit id)) W3 hk3⟩⟩
      | goto t =>
        obtain ⟨hi3, hsz3, hk3⟩ := hp
        obtain ⟨hr, hl4, hk4, ht4⟩ := fin (some (.goto t)) W3 (fun b hb => hk3 b (Or.inr (Or.inr hb)))
        exact ⟨_, _, hr, .inr ⟨rfl, ⟨W3, .goto t, hi3, ht4, hl4, hk4, fun b hb => (hT' b hb).1⟩, by simpa using hsz3, hkeep (some (.goto t)) W3 hk3⟩⟩
      | panic ch => exact hp.elim
      | outgrown => exact hp.elim
    · -- behind the iterator
      rintro e W2 ⟨⟨v, rfl⟩, (⟨Tp, Wp, ⟨Wq, hi, hqp, hl, hk, hTp, hRp⟩, hturn⟩ | ⟨pre, Tp, Wp, hpre, ⟨Wq, c, hi, hqp, hl, hk, hTp⟩, hturn⟩)⟩
      · have hlp : w.heap.size + 1 < Wp.heap.size := (Array.getElem?_eq_some_iff.1 hl).1
        have hl2 := (hturn.block _ hlp (fun h => by have := (hTp _ h).1; omega)).trans hl
        have hk2 := (hturn.block w.heap.size (by omega) (fun h => by have := (hTp _ h).1; omega)).trans hk
        refine ⟨none, _, by have := run_endLoop (P := P) hl2 (by rw [hrec]; simp); rw [hrec] at this; exact this, ?_⟩
        refine hdone Tp Wq _ hi (((hqp.mono (fun i _ h => Or.inr h)).trans (hturn.mono (fun i _ h => Or.inl h))).trans (Turns.put _ _ _ (Or.inr (Or.inl rfl)))) (fun b hb => (hTp b hb).1) ?_ ((World.putObj_heap_other (by omega)).trans hk2)
        simp; exact (Array.getElem?_eq_some_iff.1 hl2).1
      · have hlp : w.heap.size + 1 < Wp.heap.size := (Array.getElem?_eq_some_iff.1 hl).1
        have hl2 := (hturn.block _ hlp (fun h => by have := (hTp _ h); omega)).trans hl
        have hk2 := (hturn.block w.heap.size (by omega) (fun h => by have := (hTp _ h); omega)).trans hk
        refine ⟨some c, _, by have := run_endLoop (P := P) hl2 (by rw [hrec]; simp); rw [hrec] at this; exact this, ?_⟩
        refine hstop c pre Tp Wq _ hpre hi (((hqp.mono (fun i _ h => Or.inr h)).trans (hturn.mono (fun i _ h => Or.inl h))).trans (Turns.put _ _ _ (Or.inr (Or.inl rfl)))) (fun b hb => (hTp b hb)) ?_ ((World.putObj_heap_other (by omega)).trans hk2)
        simp; exact (Array.getElem?_eq_some_iff.1 hl2).1

end Go.Proofs.YtajoipmchgabfaaGreat
