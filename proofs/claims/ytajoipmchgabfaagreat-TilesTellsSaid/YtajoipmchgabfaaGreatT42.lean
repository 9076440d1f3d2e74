/- Several texts in one, each with its own head. -/
import Derived.Test.YtajoipmchgabfaaGreatT25
import Derived.Test.YtajoipmchgabfaaGreatT18
import Derived.Test.YtajoipmchgabfaaGreatT24
import Derived.Test.YtajoipmchgabfaaGreatT26
import Derived.Test.YtajoipmchgabfaaGreatT41
import Derived.Test.YtajoipmchgabfaaGreatT27
/- The walk of the document's own answer for In. -/
namespace Go.Proofs.YtajoipmchgabfaaGreat
open Go.RowKit

end Go.Proofs.YtajoipmchgabfaaGreat

/- The walk of the document's own answer for Shift. -/
namespace Go.Proofs.YtajoipmchgabfaaGreat
open Go.RowKit

theorem shiftR_zero {r : Rc} {x y : Int} (h : goodR r = false ∨ ¬ ((-1048576 - r.x ≤ x ∧ x ≤ 1048576 - (r.x + r.a)) ∧ (-1048576 - r.y ≤ y ∧ y ≤ 1048576 - (r.y + r.b)))) : shiftR r x y = zeroRc := by
  unfold shiftR
  rw [if_neg]
  intro hh
  have h1 : goodR r = true ∧ (-1048576 - r.x ≤ x ∧ x ≤ 1048576 - (r.x + r.a)) ∧ (-1048576 - r.y ≤ y ∧ y ≤ 1048576 - (r.y + r.b)) := by simpa [wayShift] using hh
  rcases h with h | h
  · rw [h1.1] at h; cases h
  · exact h h1.2
theorem shiftR_some {r : Rc} {x y : Int} (hg : goodR r = true) (h : goodR ⟨r.x + x, r.y + y, r.a, r.b⟩ = true) : shiftR r x y = ⟨r.x + x, r.y + y, r.a, r.b⟩ := by
  have h1 := goodR_iff.1 hg
  have h2 := goodR_iff.1 h
  simp only at h2
  unfold shiftR
  rw [if_pos]
  simp [hg, wayShift]
  omega
theorem shiftR_bad {r : Rc} {x y : Int} (hg : goodR r = true) (h : goodR ⟨r.x + x, r.y + y, r.a, r.b⟩ = false) : shiftR r x y = zeroRc := by
  have h1 := goodR_iff.1 hg
  apply shiftR_zero
  refine Or.inr fun hh => ?_
  have : goodR ⟨r.x + x, r.y + y, r.a, r.b⟩ = true := goodR_iff.2 (by simp only; omega)
  rw [this] at h; cases h

end Go.Proofs.YtajoipmchgabfaaGreat

/- region's Same: whether there is no band of what one has alone. -/
namespace Go.Proofs.YtajoipmchgabfaaGreat
open Go.RowKit Go.Shelf

attribute [local go_sem] Oper.semAt_some

/-- A bool result, read out of its box. -/
theorem results_box {fn : Func} {p : Tmp} {tmps : Array Value} {w : World} {B : Nat} {r : Bool} (h : fn.results = #[.cell p 4]) (hp : tmps.getD p undef = .pointer (some ⟨B, 0, none⟩)) (hl : w.cell? ⟨B, 0, none⟩ = some (.bool r)) :
    (results fn tmps).run Tryz.prog w = .ok (.bool r) w := by
  have hp' : tmps[p]?.getD undef = .pointer (some ⟨B, 0, none⟩) := by simpa using hp
  simp [results, h, hp', go_sem, hl]

/-- What Same's loop keeps: the answer's box. -/
structure SameInv (w : World) (r : Bool) (W : World) : Prop where
  bl : Boxed W w.heap.size 4 (.bool r)
  below : Below w.heap.size w W
  big : w.heap.size + 4 ≤ W.heap.size

theorem SameInv.turns {w : World} {r : Bool} {Tp : Nat → Prop} {W W2 : World} (h : SameInv w r W) (ht : Turns (fun b => Tp b ∨ b = w.heap.size + 4 + 1 ∨ b = w.heap.size + 4) W W2) (hTp : ∀ b, Tp b → w.heap.size + 5 < b) : SameInv w r W2 := by
  obtain ⟨h1, hb, hbig⟩ := h
  refine ⟨ht.boxed h1 (fun h => ?_), ?_, Nat.le_trans hbig ht.size⟩
  · rcases h with h | h
    · have := hTp _ h; omega
    · omega
  · exact hb.trans (ht.below (by omega) (fun i hi => by
      rcases hi with hi | hi
      · have := hTp _ hi; omega
      · omega))

end Go.Proofs.YtajoipmchgabfaaGreat

/- region's Shift: the list in form of the shifted rectangles. -/
namespace Go.Proofs.YtajoipmchgabfaaGreat
open Go.RowKit

theorem shiftR_fit (r : Rc) (dx dy : Int) : Fit (shiftR r dx dy) := by
  rcases shift_cases r dx dy with e | ⟨hg, e, h1, h2, h3, h4⟩
  · rw [e]; exact ⟨by decide, by decide⟩
  · rw [e]
    have := goodR_iff.1 hg
    exact ⟨by simp only [tr]; omega, by simp only [tr]; omega⟩

theorem shiftL_take (xs : List Rc) (dx dy : Int) (k : Nat) (h : k < xs.length) : shiftL (xs.take (k + 1)) dx dy = shiftL (xs.take k) dx dy ++ [shiftR xs[k] dx dy] := by
  simp only [shiftL]
  rw [List.take_succ_eq_append_getElem h, List.map_append]; rfl

end Go.Proofs.YtajoipmchgabfaaGreat

/- region's Area: how many pixels a list has, summed over the bands. -/
namespace Go.Proofs.YtajoipmchgabfaaGreat
open Go.RowKit Go.Shelf

attribute [local go_sem] Oper.semAt_some

/-- Between two rounds of Area's loop over bands. -/
structure AreaInv (w : World) (pre : List (List Rc)) (W : World) : Prop where
  bl : Boxed W w.heap.size 3 (.int .i64 (areaS pre.flatten))
  below : Below w.heap.size w W
  big : w.heap.size + 4 ≤ W.heap.size

theorem AreaInv.turns {w : World} {pre : List (List Rc)} {Tp : Nat → Prop} {W W2 : World} (h : AreaInv w pre W) (ht : Turns (fun b => Tp b ∨ b = w.heap.size + 4 + 1 ∨ b = w.heap.size + 4) W W2) (hTp : ∀ b, Tp b → w.heap.size + 5 < b) : AreaInv w pre W2 := by
  obtain ⟨h1, hb, hbig⟩ := h
  refine ⟨ht.boxed h1 (fun h => ?_), ?_, Nat.le_trans hbig ht.size⟩
  · rcases h with h | h
    · have := hTp _ h; omega
    · omega
  · exact hb.trans (ht.below (by omega) (fun i hi => by
      rcases hi with hi | hi
      · have := hTp _ hi; omega
      · omega))

theorem areaS_take (xs : List Rc) (k : Nat) (h : k < xs.length) : areaS (xs.take (k + 1)) = areaS (xs.take k) + areaR xs[k] := by
  rw [List.take_succ_eq_append_getElem h, areaS_append]; simp [areaS]

theorem areaR_nonneg (r : Rc) : 0 ≤ areaR r := by
  have := areaS_nonneg [r]
  simpa [areaS] using this

/-- A row whose block is not one of cells has no element. -/
theorem Row.apart {W : World} {v : Value} {xs : List Rc} (h : Row encR 4 W v xs) (hne : xs ≠ []) {b : Nat} (hl : ∃ r, W.heap[b]? = some (.loop r)) : ∀ q, v.ownBlock = some q → q ≠ b := by
  obtain ⟨r, hr⟩ := hl
  obtain ⟨p, cap, rfl, -, -, hp⟩ := h
  obtain ⟨b', off, rfl, hB, hc⟩ := hp.rc (List.length_pos_iff.2 hne)
  have c0 := (hc 0 (List.length_pos_iff.2 hne)).c0
  rintro q ⟨⟩ rfl
  simp [World.cell?, hr] at c0

end Go.Proofs.YtajoipmchgabfaaGreat

/- The document's own Area and Shift of lists of rectangles, from what its Of answers (OfSpec: still to be proved of it). -/
namespace Go.Proofs.YtajoipmchgabfaaGreat
open Go.RowKit

/-- What the document's Of answers: the list in form of the pixels that are meant. -/
def OfSpec : Prop := ∀ (va vb : Value) (a b : List Rc) (how : Int) (w : World), Row encR 4 w va a → Row encR 4 w vb b → (∀ r ∈ a, Fit r) → (∀ r ∈ b, Fit r) → a.length ≤ 24 → b.length ≤ 24 →
  Calls Tryz.prog 23 #[va, vb, .int .i64 how] w fun e w' => ∃ u, e = .returned u ∧ w'.ownsRow w.heap.size 37 4 u (formL (howF how) a b).length (flatR (formL (howF how) a b)) ∧ Below w.heap.size w w'

theorem how_none (how : Int) : howF how false false = false := by unfold howF; split <;> (try split) <;> rfl
theorem formL_how0 (a : List Rc) : formL (howF 0) a [] = formL (fun p _ => p) a [] := form_unique (how_none 0) rfl (fun x y => by simp [howF, pix_nil])

theorem row_nil (w : World) : Row encR 4 w (.slice none 0 0) [] := ⟨none, 0, rfl, Nat.le_refl _, by simp [maxLen], .inl ⟨rfl, rfl⟩⟩

theorem areaWH {r : Rc} (h : emptyR r = false) : areaR r = r.a * r.b := by simp [areaR, h]

end Go.Proofs.YtajoipmchgabfaaGreat

/- The places that the document's Of works with: its four calls of edges. -/
namespace Go.Proofs.YtajoipmchgabfaaGreat
open Go.RowKit

/-- A row of places that is owned, in a block of its own. -/
structure Places (w0 w : World) (u : Value) (l : List Int) : Prop where
  own : w.ownsRow w0.heap.size 3 1 u l.length (intsV l)

theorem row_blk {W : World} {v : Value} {xs : List Rc} (h : Row encR 4 W v xs) : ∀ q, v.ownBlock = some q → q < W.heap.size := by
  obtain ⟨p, cap, rfl, -, -, hp⟩ := h
  intro q hq
  rcases hp with ⟨rfl, -⟩ | ⟨b, off, rfl, hb, -⟩
  · cases hq
  · have : q = b := by
      simp [Value.ownBlock] at hq
      exact hq.symm
    omega

/-- edges(b, down, edges(a, down, nil)). -/
theorem redges_two (down : Bool) (va vb : Value) (a b : List Rc) (w0 w : World) (ha : Row encR 4 w0 va a) (hb : Row encR 4 w0 vb b) (hla : a.length ≤ 24) (hlb : b.length ≤ 24) (h0 : Below w0.heap.size w0 w) :
    Calls Tryz.prog 36 #[va, .bool down, .slice none 0 0] w fun e w1 => ∃ u, e = .returned u ∧ w1.ownsRow w0.heap.size 3 1 u (edgesI down a []).length (intsV (edgesI down a [])) ∧ Below w.heap.size w w1 ∧ (∀ q, u.ownBlock = some q → w.heap.size ≤ q) ∧
      Calls Tryz.prog 36 #[vb, .bool down, u] w1 fun e w2 => ∃ u2, e = .returned u2 ∧ w2.ownsRow w0.heap.size 3 1 u2 (edgesI down b (edgesI down a [])).length (intsV (edgesI down b (edgesI down a []))) ∧ Below w.heap.size w w2 ∧ ∀ q, u2.ownBlock = some q → w.heap.size ≤ q := by
  refine Calls.mono (redges_any down va (.slice none 0 0) a [] w0.heap.size w (ha.below h0) (World.ownsRow_nil _ _ _ _) h0.size (fun q h => by cases h) (by simp; omega)) ?_
  rintro e w1 ⟨u, rfl, hown, ht, hp⟩
  have hb1 : Below w.heap.size w w1 := ht.below (Nat.le_refl _) (fun i h => by cases h)
  have hp1 : ∀ q, u.ownBlock = some q → w.heap.size ≤ q := fun q hq => by
    rcases hp q hq with h | h
    · cases h
    · exact h
  have hb01 : Below w0.heap.size w0 w1 := h0.trans (hb1.mono h0.size)
  refine ⟨u, rfl, hown, hb1, hp1, ?_⟩
  have hl1 := edgesI_len down a []
  refine Calls.mono (redges_any down vb u b (edgesI down a []) w0.heap.size w1 (hb.below hb01) hown hb01.size (fun q hq hv => by
    have h1 := hp1 q hq
    have h2 := row_blk hb q hv
    have := h0.size
    omega) (by simp at hl1; omega)) ?_
  rintro e w2 ⟨u2, rfl, hown2, ht2, hp2⟩
  refine ⟨u2, rfl, hown2, ?_, fun q hq => ?_⟩
  · exact hb1.trans (ht2.below hb1.size (fun i h => hp1 i h))
  · rcases hp2 q hq with h | h
    · exact hp1 q h
    · have := hb1.size; omega

end Go.Proofs.YtajoipmchgabfaaGreat
