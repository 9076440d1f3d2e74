/- Regions that draw their order and whose calls only make memory: one walk in the order of the text. Nothing here speaks of one program. -/
import Derived.Test.YtonhcdhlinlncaaBase
namespace Go.Proofs.Ytonhcdhlinlncaa
open Go.RowKit

/-- A world in which all that w had is as it was. -/
structure After (w : World) where
  world : World
  below : Below w.heap.size w world

theorem After.ne (w : World) : Nonempty (After w) := ⟨⟨w, Below.refl _ _⟩⟩

theorem After.cell {w : World} {a : Addr} {v : Value} (h : w.cell? a = some v) (n : After w) : n.world.cell? a = some v := cell_later n.below h

/-- A call that only makes memory, met in such a world. -/
theorem Makes.after {P : Program} {f : FuncId} {args : Array Value} {w : World} {v : Value} {n : After w} (h : Makes P f args n.world v) :
    Calls P f args n.world fun e w'' => e = .returned v ∧ ∃ m : After w, w'' = m.world :=
  Calls.mono h fun _ w'' ⟨he, hb⟩ => ⟨he, ⟨w'', Below.thn n.below hb⟩, rfl⟩

theorem wp_region_after {P : Program} {id : Nat} {Q : Exit → Act → World → Prop} {a : Act} {w : World} {l : List Oper} (hm : P.follows .mixedOrders = true) (hB : Region.lexB .any l.toArray = true)
    (h : wpQuiet P l.toArray (fun w' => ∃ n : After w, w' = n.world) (fun a' => ∀ w', (∃ n : After w, w' = n.world) → Q .normal a' w') l a) : (Code.region id l.toArray true).wp P Q a w :=
  wp_region_quiet (C := fun w' => ∃ n : After w, w' = n.world) hm hB ⟨⟨w.drew, Below.drew (Below.refl _ _)⟩, rfl⟩ (by simpa using h)

theorem After.rule {W : World} {a : Addr} {v : Value} (h : W.cell? a = some v) : ∀ n : After W, n.world.cell? a = some v := fun n => cell_later n.below h

/-- The same from a world of the class on, behind an earlier region. -/
theorem wp_region_in {P : Program} {id : Nat} {Q : Exit → Act → World → Prop} {a : Act} {W : World} {l : List Oper} (n : After W) (hm : P.follows .mixedOrders = true) (hB : Region.lexB .any l.toArray = true)
    (h : wpQuiet P l.toArray (fun w' => ∃ m : After W, w' = m.world) (fun a' => ∀ w', (∃ m : After W, w' = m.world) → Q .normal a' w') l a) : (Code.region id l.toArray true).wp P Q a n.world :=
  wp_region_quiet (C := fun w' => ∃ m : After W, w' = m.world) hm hB ⟨⟨n.world.drew, Below.drew n.below⟩, rfl⟩ (by simpa using h)

theorem wpList_of_quiet {P : Program} {ops : Array Oper} {C : World → Prop} {Q : Act → Prop} {Q' : Exit → Act → World → Prop} (hQ : ∀ a w, C w → Q a → Q' .normal a w) : ∀ (l : List Oper) (a : Act) (w : World), C w → wpQuiet P ops C Q l a → wpList P ops Q' l a w
  | [], _, _, hw, h => hQ _ _ hw h
  | o :: rest, a, w, hw, h => by
    unfold wpQuiet at h
    unfold wpList
    split
    · rename_i hh
      rw [if_pos hh] at h
      exact Or.inl (Oper.wp_of_quiet hw (fun a' w' hw' hk => wpList_of_quiet hQ rest a' w' hw' hk) h)
    · rename_i hh
      rw [if_neg hh] at h
      exact wpList_of_quiet hQ rest _ w hw h

/-- A region whose order is the text's: the same walk. -/
theorem wp_region_seq {P : Program} {id : Nat} {Q : Exit → Act → World → Prop} {a : Act} {W : World} {l : List Oper} (n : After W)
    (h : wpQuiet P l.toArray (fun w' => ∃ m : After W, w' = m.world) (fun a' => ∀ w', (∃ m : After W, w' = m.world) → Q .normal a' w') l a) : (Code.region id l.toArray false).wp P Q a n.world :=
  wp_region_lit (wpList_of_quiet (C := fun w' => ∃ m : After W, w' = m.world) (fun _ w' hw' h => h w' hw') _ _ _ ⟨n, rfl⟩ h)

end Go.Proofs.Ytonhcdhlinlncaa
