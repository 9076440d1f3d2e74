/- bits: what all its statements ask: bytes that are held against each other, and the laid example. -/
import Derived.Test.YtonhcdhlinlncaaBitD
import Derived.Test.YtonhcdhlinlncaaBitE
namespace Go.Proofs.Ytonhcdhlinlncaa
open Go.RowKit

theorem Wr.new (w : World) : Wr (w.alloc (.cells #[.slice none 0 0, .int .i64 0] 63)) (w.heap.size + 1) w.heap.size (.slice none 0 0) 0 0 :=
  ⟨by omega, World.alloc_heap_new w _, World.ownsRow_nil _ _ _ _, by decide⟩

/-- A writer that was made behind W0 keeps all that W0 had. -/
theorem WrTo.keeps {S base B N n M m : Nat} {sv : Value} {W0 w w' : World} (hb : Below S W0 w) (hw : Wr w base B sv N n) (hS : S ≤ B) (hSw : S ≤ w.heap.size) (h : WrTo base B sv M m w w') : Below S W0 w' := by
  obtain ⟨sv', h1, h2, h3⟩ := h
  refine hb.trans (h2.below hSw (fun i hi => ?_))
  rcases hi with rfl | hi
  · exact hS
  · have h4 := (hw.own.lt i hi).1
    have h5 := hw.lt
    omega

/-- A writer of n bits, the number N, that was made behind W0 (at S); all that W0 had stands. -/
def WrS (S base B N n : Nat) (W0 w : World) : Prop := ∃ sv, Wr w base B sv N n ∧ Below S W0 w ∧ base ≤ w.heap.size ∧ S ≤ B ∧ n ≤ 8388608

theorem WrS.of {S base B N n M m : Nat} {sv : Value} {W0 w w' : World} (hw : Wr w base B sv N n) (hb : Below S W0 w) (hs : base ≤ w.heap.size) (hS : S ≤ B) (hm : m ≤ 8388608) (h : WrTo base B sv M m w w') : WrS S base B M m W0 w' := by
  have hk := WrTo.keeps hb hw hS (by have := hw.size; omega) h
  obtain ⟨sv', h1, h2, -⟩ := h
  exact ⟨sv', h1, hk, Nat.le_trans hs h2.size, hS, hm⟩

theorem WrS.new (w : World) : WrS w.heap.size (w.heap.size + 1) w.heap.size 0 0 w (w.alloc (.cells #[.slice none 0 0, .int .i64 0] 63)) :=
  ⟨_, Wr.new w, Below.al1 w _, by simp, Nat.le_refl _, by decide⟩
theorem WrS.keeps {S base B N n : Nat} {W0 w : World} (h : WrS S base B N n W0 w) : Below S W0 w := by obtain ⟨_, _, h, _⟩ := h; exact h
theorem WrS.below {S base B N n : Nat} {W0 w w' : World} (h : WrS S base B N n W0 w) (hb : Below w.heap.size w w') : WrS S base B N n W0 w' := by
  obtain ⟨sv, h1, h2, h3, h4, h5⟩ := h
  exact ⟨sv, h1.below hb, h2.trans (hb.mono (by have := h1.size; omega)), Nat.le_trans h3 hb.size, h4, h5⟩

/-- A reader that was made behind W0 (at S). -/
def RdS (S B : Nat) (l : List Nat) (a : Nat) (W0 w : World) : Prop := ∃ sv, Rd w B sv l a ∧ Below S W0 w ∧ S ≤ B ∧ S ≤ w.heap.size

theorem RdS.keeps {S B a : Nat} {l : List Nat} {W0 w : World} (h : RdS S B l a W0 w) : Below S W0 w := by obtain ⟨_, _, h, _⟩ := h; exact h
theorem RdS.below {S B a : Nat} {l : List Nat} {W0 w w' : World} (h : RdS S B l a W0 w) (hb : Below w.heap.size w w') : RdS S B l a W0 w' := by
  obtain ⟨sv, h1, h2, h3, h4⟩ := h
  exact ⟨sv, h1.below hb, h2.trans (hb.mono h4), h3, Nat.le_trans h4 hb.size⟩

theorem newS {v : Value} {l : List Nat} {S : Nat} {W0 w : World} (hb0 : Below S W0 w) (hS : S ≤ w.heap.size) (hv : Rw8 w v l) (hb : ∀ b ∈ l, b < 256) (hlen : l.length ≤ 1073741824) :
    Calls Try.prog 33 #[v] w fun e w' => ∃ B, e = .returned (.pointer (some ⟨B, 0, none⟩)) ∧ RdS S B l 0 W0 w' ∧ Below w.heap.size w w' ∧ w.heap.size ≤ B :=
  (new_any v l w hv hb hlen).mono fun e w' ⟨B, sv, he, h1, h2, h3, h4⟩ => ⟨B, he, ⟨sv, h1, hb0.trans (h2.mono hS), by omega, Nat.le_trans hS h2.size⟩, h2, h3⟩

end Go.Proofs.Ytonhcdhlinlncaa
