/-
  No cell of these rows narrows 'for every input' (looked for: loops, veiled, ifaces, maps, wideKeys, modest, calm, conditions, laid).
  DERIVED. THE GIVEN ROWS OF THIS SEAT. 5 by the template 'for every input the law returns true; each argument reads behind the call as it read before'; 0 by the template 'total and deterministic' (their statements: YtonhcdhlinlncaaTotals.lean).
  GIVEN WITH THE SEED: the statements are not yours to turn. If you find one false, say at which input.
  Laid BY PROGRAM, IN A SANDBOX (cutbox-rows.mjs): the forced cells as the released guide's own fill.sh prints them over the translation 106296cb3741841e… (all of the seat's roots in one cut). By AI agents, Wed Nov 11 2026. No macro, syntax, notation, axiom, sorry.
-/
import Derived.Test.YtonhcdhlinlncaaChecked
import GoSem.Claim
import GoSem.ClaimJoined
import GoSem.ClaimMapViews
import Derived.JoinedTies
import Derived.KernelRfl
namespace Go.Proofs.Ytonhcdhlinlncaa
/- THE CELL 'sum', in the pinned program and in every row, IS THE sha256 OF THE DUMP (.gsa) THAT YtonhcdhlinlncaaProg.lean LOADS. Nothing in Lean hashes anything: it is a label: what it is worth is what the hold of that sum in a sandbox is worth. -/
noncomputable def Try.pinned : Pinned := { name := "ytonhcdhlinlncaa", sum := "106296cb3741841eb0b1585ff2fb1646f8a13197735e88afcb1296fad5c602dc", checked := Try.checked }
namespace Rows
def none {H : Type} : Left H := { results := [], args := [] }

/-- 'vignettelaw12.PaletteEncodes': WHATEVER THE INPUT: true; the input reads as it did. -/
def paletteEncodesSpec : ChangeSpec := { name := "paletteEncodes", fn := fun _ => fun
  | [d] => { results := [.lit (.bool true)], args := [d] }
  | _ => none }
def paletteEncodesRow : OpenClaim := { program := "ytonhcdhlinlncaa", sum := "106296cb3741841eb0b1585ff2fb1646f8a13197735e88afcb1296fad5c602dc", func := "vignette/vignettelaw12.PaletteEncodes", spec := "paletteEncodes", unfollowed := true, recurses := true, apart := false }
def PaletteEncodesSaid : Prop := paletteEncodesRow.holds Try.pinned (OpenSpec.ofChange paletteEncodesSpec)

/-- ITS FALSE NEIGHBOUR: 'it returns false'. Refute it at one input. -/
def paletteEncodesWrong : ChangeSpec := { name := "paletteEncodes", fn := fun _ => fun
  | [d] => { results := [.lit (.bool false)], args := [d] }
  | _ => none }
def PaletteEncodesWrongFalsely : Prop := paletteEncodesRow.holds Try.pinned (OpenSpec.ofChange paletteEncodesWrong)

/-- 'vignettelaw12.PaletteDecodes': WHATEVER THE INPUT: true; the input reads as it did. -/
def paletteDecodesSpec : ChangeSpec := { name := "paletteDecodes", fn := fun _ => fun
  | [d1, d2] => { results := [.lit (.bool true)], args := [d1, d2] }
  | _ => none }
def paletteDecodesRow : OpenClaim := { program := "ytonhcdhlinlncaa", sum := "106296cb3741841eb0b1585ff2fb1646f8a13197735e88afcb1296fad5c602dc", func := "vignette/vignettelaw12.PaletteDecodes", spec := "paletteDecodes", unfollowed := true, recurses := true, apart := false }
def PaletteDecodesSaid : Prop := paletteDecodesRow.holds Try.pinned (OpenSpec.ofChange paletteDecodesSpec)

/-- ITS FALSE NEIGHBOUR: 'it returns false'. Refute it at one input. -/
def paletteDecodesWrong : ChangeSpec := { name := "paletteDecodes", fn := fun _ => fun
  | [d1, d2] => { results := [.lit (.bool false)], args := [d1, d2] }
  | _ => none }
def PaletteDecodesWrongFalsely : Prop := paletteDecodesRow.holds Try.pinned (OpenSpec.ofChange paletteDecodesWrong)

/-- 'vignettelaw12.PaletteBack': WHATEVER THE INPUT: true; the input reads as it did. -/
def paletteBackSpec : ChangeSpec := { name := "paletteBack", fn := fun _ => fun
  | [d] => { results := [.lit (.bool true)], args := [d] }
  | _ => none }
def paletteBackRow : OpenClaim := { program := "ytonhcdhlinlncaa", sum := "106296cb3741841eb0b1585ff2fb1646f8a13197735e88afcb1296fad5c602dc", func := "vignette/vignettelaw12.PaletteBack", spec := "paletteBack", unfollowed := true, recurses := true, apart := false }
def PaletteBackSaid : Prop := paletteBackRow.holds Try.pinned (OpenSpec.ofChange paletteBackSpec)

/-- ITS FALSE NEIGHBOUR: 'it returns false'. Refute it at one input. -/
def paletteBackWrong : ChangeSpec := { name := "paletteBack", fn := fun _ => fun
  | [d] => { results := [.lit (.bool false)], args := [d] }
  | _ => none }
def PaletteBackWrongFalsely : Prop := paletteBackRow.holds Try.pinned (OpenSpec.ofChange paletteBackWrong)

/-- 'vignettelaw12.PaletteTurned': WHATEVER THE INPUT: true; the input reads as it did. -/
def paletteTurnedSpec : ChangeSpec := { name := "paletteTurned", fn := fun _ => fun
  | [d1, d2] => { results := [.lit (.bool true)], args := [d1, d2] }
  | _ => none }
def paletteTurnedRow : OpenClaim := { program := "ytonhcdhlinlncaa", sum := "106296cb3741841eb0b1585ff2fb1646f8a13197735e88afcb1296fad5c602dc", func := "vignette/vignettelaw12.PaletteTurned", spec := "paletteTurned", unfollowed := true, recurses := true, apart := false }
def PaletteTurnedSaid : Prop := paletteTurnedRow.holds Try.pinned (OpenSpec.ofChange paletteTurnedSpec)

/-- ITS FALSE NEIGHBOUR: 'it returns false'. Refute it at one input. -/
def paletteTurnedWrong : ChangeSpec := { name := "paletteTurned", fn := fun _ => fun
  | [d1, d2] => { results := [.lit (.bool false)], args := [d1, d2] }
  | _ => none }
def PaletteTurnedWrongFalsely : Prop := paletteTurnedRow.holds Try.pinned (OpenSpec.ofChange paletteTurnedWrong)

/-- 'vignettelaw12.PaletteKnown': WHATEVER THE INPUT: true; the input reads as it did. -/
def paletteKnownSpec : ChangeSpec := { name := "paletteKnown", fn := fun _ => fun
  | [] => { results := [.lit (.bool true)], args := [] }
  | _ => none }
def paletteKnownRow : OpenClaim := { program := "ytonhcdhlinlncaa", sum := "106296cb3741841eb0b1585ff2fb1646f8a13197735e88afcb1296fad5c602dc", func := "vignette/vignettelaw12.PaletteKnown", spec := "paletteKnown", unfollowed := true, recurses := true, apart := false }
def PaletteKnownSaid : Prop := paletteKnownRow.holds Try.pinned (OpenSpec.ofChange paletteKnownSpec)

/-- ITS FALSE NEIGHBOUR: 'it returns false'. Refute it at one input. -/
def paletteKnownWrong : ChangeSpec := { name := "paletteKnown", fn := fun _ => fun
  | [] => { results := [.lit (.bool false)], args := [] }
  | _ => none }
def PaletteKnownWrongFalsely : Prop := paletteKnownRow.holds Try.pinned (OpenSpec.ofChange paletteKnownWrong)

/- THE SECOND FORM. 'bulk': how many values and letters a reading holds, each counted each time it is reached (what is shared counts as often as it is met; a slice's spare places count too). A statement '..UptoSaid' is the law's where the arguments, and the package variables that the reading takes, are together of bulk at most 1048576: NARROWER than '..Said'. Prove '..Said' where nothing that the law and all that it calls make is longer than what came in: it says more and counts as full. Else prove '..UptoSaid'. A law counts once. -/
mutual
def uptoBulk {H : Type} : DataW H → Nat
  | .lit (.string bytes) => bytes.length + 1
  | .lit _ => 1
  | .nil => 1
  | .ptr d => uptoBulk d + 1
  | .slice elems spare => uptoBulkAll elems + uptoBulkAll spare + 1
  | .agg parts => uptoBulkAll parts + 1
  | .iface _ d => uptoBulk d + 1
  | .map entries => uptoBulkEntries entries + 1
  | .held _ => 1
def uptoBulkAll {H : Type} : List (DataW H) → Nat
  | [] => 0
  | d :: r => uptoBulk d + uptoBulkAll r
def uptoBulkEntries {H : Type} : List (Lit × DataW H) → Nat
  | [] => 0
  | x :: r => uptoBulkEntry x + uptoBulkEntries r
def uptoBulkEntry {H : Type} : Lit × DataW H → Nat
  | (.string bytes, d) => bytes.length + uptoBulk d + 1
  | (_, d) => uptoBulk d + 1
 end
def uptoSmall : (H : Type) → List (DataW H) → Bool := fun _ ds => decide (uptoBulkAll ds ≤ 1048576)
def OpenSpec.upto (s : _root_.Go.ChangeSpec) : _root_.Go.OpenSpec := { _root_.Go.OpenSpec.ofChange s with cond := some uptoSmall }

/-- 'vignettelaw12.PaletteEncodes', WHERE WHAT IT READS IS OF BULK AT MOST 1048576: true; the input reads as it did. -/
def paletteEncodesUptoRow : OpenClaim := { program := "ytonhcdhlinlncaa", sum := "106296cb3741841eb0b1585ff2fb1646f8a13197735e88afcb1296fad5c602dc", func := "vignette/vignettelaw12.PaletteEncodes", spec := "paletteEncodes", unfollowed := true, recurses := true, apart := false, narrowed := true }
def PaletteEncodesUptoSaid : Prop := paletteEncodesUptoRow.holds Try.pinned (OpenSpec.upto paletteEncodesSpec)

/-- 'vignettelaw12.PaletteDecodes', WHERE WHAT IT READS IS OF BULK AT MOST 1048576: true; the input reads as it did. -/
def paletteDecodesUptoRow : OpenClaim := { program := "ytonhcdhlinlncaa", sum := "106296cb3741841eb0b1585ff2fb1646f8a13197735e88afcb1296fad5c602dc", func := "vignette/vignettelaw12.PaletteDecodes", spec := "paletteDecodes", unfollowed := true, recurses := true, apart := false, narrowed := true }
def PaletteDecodesUptoSaid : Prop := paletteDecodesUptoRow.holds Try.pinned (OpenSpec.upto paletteDecodesSpec)

/-- 'vignettelaw12.PaletteBack', WHERE WHAT IT READS IS OF BULK AT MOST 1048576: true; the input reads as it did. -/
def paletteBackUptoRow : OpenClaim := { program := "ytonhcdhlinlncaa", sum := "106296cb3741841eb0b1585ff2fb1646f8a13197735e88afcb1296fad5c602dc", func := "vignette/vignettelaw12.PaletteBack", spec := "paletteBack", unfollowed := true, recurses := true, apart := false, narrowed := true }
def PaletteBackUptoSaid : Prop := paletteBackUptoRow.holds Try.pinned (OpenSpec.upto paletteBackSpec)

/-- 'vignettelaw12.PaletteTurned', WHERE WHAT IT READS IS OF BULK AT MOST 1048576: true; the input reads as it did. -/
def paletteTurnedUptoRow : OpenClaim := { program := "ytonhcdhlinlncaa", sum := "106296cb3741841eb0b1585ff2fb1646f8a13197735e88afcb1296fad5c602dc", func := "vignette/vignettelaw12.PaletteTurned", spec := "paletteTurned", unfollowed := true, recurses := true, apart := false, narrowed := true }
def PaletteTurnedUptoSaid : Prop := paletteTurnedUptoRow.holds Try.pinned (OpenSpec.upto paletteTurnedSpec)

/-- 'vignettelaw12.PaletteKnown', WHERE WHAT IT READS IS OF BULK AT MOST 1048576: true; the input reads as it did. -/
def paletteKnownUptoRow : OpenClaim := { program := "ytonhcdhlinlncaa", sum := "106296cb3741841eb0b1585ff2fb1646f8a13197735e88afcb1296fad5c602dc", func := "vignette/vignettelaw12.PaletteKnown", spec := "paletteKnown", unfollowed := true, recurses := true, apart := false, narrowed := true }
def PaletteKnownUptoSaid : Prop := paletteKnownUptoRow.holds Try.pinned (OpenSpec.upto paletteKnownSpec)

end Rows
end Go.Proofs.Ytonhcdhlinlncaa
