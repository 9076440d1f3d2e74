/- Regions that draw their order and whose calls only make memory: one walk in the order of the text. Nothing here speaks of one program. -/
import Derived.Test.YtcnamgjapcnemaaBase
namespace Go.Proofs.Ytcnamgjapcnemaa
open Go.RowKit

/-- A world in which all that w had is as it was. -/
structure After (w : World) where
  world : World
  below : Below w.heap.size w world

theorem After.ne (w : World) : Nonempty (After w) := ⟨⟨w, Below.refl _ _⟩⟩

theorem After.cell {w : World} {a : Addr} {v : Value} (h : w.cell? a = some v) (n : After w) : n.world.cell? a = some v := cell_later n.below h

/-- A call that only makes memory, met in such a world. -/
theorem Makes.after {P : Program} {f : FuncId} {args : Array Value} {w : World} {v : Value} {n : After w} (h : Makes P f args n.world v) :
    Calls P f args n.world fun e w'' => e = .returned v ∧ ∃ m : After w, w'' = m.world :=
  Calls.mono h fun _ w'' ⟨he, hb⟩ => ⟨he, ⟨w'', Below.thn n.below hb⟩, rfl⟩

theorem wp_region_after {P : Program} {id : Nat} {Q : Exit → Act → World → Prop} {a : Act} {w : World} {l : List Oper} (hm : P.follows .mixedOrders = true) (hB : Region.lexB .any l.toArray = true)
    (h : wpQuiet P l.toArray (fun w' => ∃ n : After w, w' = n.world) (fun a' => ∀ w', (∃ n : After w, w' = n.world) → Q .normal a' w') l a) : (Code.region id l.toArray true).wp P Q a w :=
  wp_region_quiet (C := fun w' => ∃ n : After w, w' = n.world) hm hB ⟨⟨w.drew, Below.drew (Below.refl _ _)⟩, rfl⟩ (by simpa using h)

end Go.Proofs.Ytcnamgjapcnemaa
