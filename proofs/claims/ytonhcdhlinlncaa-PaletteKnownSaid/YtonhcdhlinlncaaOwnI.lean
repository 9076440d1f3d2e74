/- A box that holds a row of one's own, ahead of a range over a function. Nothing here speaks of one program. -/
import Derived.Test.YtonhcdhlinlncaaTurnsA
import Derived.Test.YtonhcdhlinlncaaRowG
namespace Go.Proofs.Ytonhcdhlinlncaa
open Go.RowKit

/-- A box b1 that holds a row of one's own, apart from T, ahead of a loop that begins at block n. -/
structure OwnI (e : TypeId) (w0 : World) (b1 n : Nat) (T : Nat → Prop) (xs : List Value) (w : World) : Prop where
  vb : ∃ vb, w.cell? ⟨b1, 0, none⟩ = some vb ∧ w.ownsRow (n + 2) e 1 vb xs.length xs ∧ ∀ k, vb.ownBlock = some k → ¬ T k
  free : w.frozen? ⟨b1, 0, none⟩ = false
  lt : b1 < n
  bel : Below w0.heap.size w0 w
theorem OwnI.turn {e : TypeId} {w0 : World} {b1 n : Nat} {Tp T S : Nat → Prop} {xs : List Value} {w w' : World} {m : Nat} (h : OwnI e w0 b1 n Tp xs w) (ht : Turns S w w') (hS : ∀ b, S b → Tp b ∨ b = n + 1 ∨ b = n) (hTp : ∀ b, Tp b → n + 1 < b) (hn : w0.heap.size ≤ n) (hm : w.heap.size ≤ m) (hT : ∀ b, T b → Tp b ∨ m ≤ b) : OwnI e w0 b1 n T xs w' := by
  obtain ⟨⟨vb, h1, h2, h3⟩, h4, h5, h6⟩ := h
  have hSb : ¬ S b1 := fun hb => by
    rcases hS _ hb with h | h | h
    · have := hTp _ h; omega
    · omega
    · omega
  refine ⟨⟨vb, ht.cell h1 hSb, ht.owns h2 (fun k hk hb => ?_), fun k hk hb => ?_⟩, ht.free h1 h4 hSb, h5, ?_⟩
  · have := (h2.lt k hk).1
    rcases hS _ hb with h | h | h
    · exact h3 k hk h
    · omega
    · omega
  · have := (h2.lt k hk).2
    rcases hT _ hb with h | h
    · exact h3 k hk h
    · omega
  · exact h6.trans (ht.below h6.size (fun i hi => by
      rcases hS _ hi with h | h | h
      · have := hTp _ h; omega
      · omega
      · omega))

end Go.Proofs.Ytonhcdhlinlncaa
