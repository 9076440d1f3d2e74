/-
  No cell of these rows narrows 'for every input' (looked for: loops, veiled, ifaces, maps, wideKeys, modest, calm, conditions, laid).
  DERIVED. THE GIVEN ROWS OF THIS SEAT. 6 by the template 'for every input the law returns true; each argument reads behind the call as it read before'; 0 by the template 'total and deterministic' (their statements: YtgfdlimgndpngaaTotals.lean).
  GIVEN WITH THE SEED: the statements are not yours to turn. If you find one false, say at which input.
  Laid BY PROGRAM, IN A SANDBOX (cutbox-rows.mjs): the forced cells as the released guide's own fill.sh prints them over the translation 9d64440a9e6484a6… (all of the seat's roots in one cut). By AI agents, Wed Nov 11 2026. No macro, syntax, notation, axiom, sorry.
-/
import Derived.Test.YtgfdlimgndpngaaChecked
import GoSem.Claim
import GoSem.ClaimJoined
import GoSem.ClaimMapViews
import Derived.JoinedTies
import Derived.KernelRfl
namespace Go.Proofs.Ytgfdlimgndpngaa
/- THE CELL 'sum', in the pinned program and in every row, IS THE sha256 OF THE DUMP (.gsa) THAT YtgfdlimgndpngaaProg.lean LOADS. Nothing in Lean hashes anything: it is a label: what it is worth is what the hold of that sum in a sandbox is worth. -/
noncomputable def Try.pinned : Pinned := { name := "ytgfdlimgndpngaa", sum := "9d64440a9e6484a69acc77b3b049169b2f174714021f236297338712fba68af0", checked := Try.checked }
namespace Rows
def none {H : Type} : Left H := { results := [], args := [] }

/-- 'vignettelaw11.RleEncodes': WHATEVER THE INPUT: true; the input reads as it did. -/
def rleEncodesSpec : ChangeSpec := { name := "rleEncodes", fn := fun _ => fun
  | [d] => { results := [.lit (.bool true)], args := [d] }
  | _ => none }
def rleEncodesRow : OpenClaim := { program := "ytgfdlimgndpngaa", sum := "9d64440a9e6484a69acc77b3b049169b2f174714021f236297338712fba68af0", func := "vignette/vignettelaw11.RleEncodes", spec := "rleEncodes", unfollowed := true, recurses := true, apart := false }
def RleEncodesSaid : Prop := rleEncodesRow.holds Try.pinned (OpenSpec.ofChange rleEncodesSpec)

/-- ITS FALSE NEIGHBOUR: 'it returns false'. Refute it at one input. -/
def rleEncodesWrong : ChangeSpec := { name := "rleEncodes", fn := fun _ => fun
  | [d] => { results := [.lit (.bool false)], args := [d] }
  | _ => none }
def RleEncodesWrongFalsely : Prop := rleEncodesRow.holds Try.pinned (OpenSpec.ofChange rleEncodesWrong)

/-- 'vignettelaw11.RleDecodes': WHATEVER THE INPUT: true; the input reads as it did. -/
def rleDecodesSpec : ChangeSpec := { name := "rleDecodes", fn := fun _ => fun
  | [d1, d2] => { results := [.lit (.bool true)], args := [d1, d2] }
  | _ => none }
def rleDecodesRow : OpenClaim := { program := "ytgfdlimgndpngaa", sum := "9d64440a9e6484a69acc77b3b049169b2f174714021f236297338712fba68af0", func := "vignette/vignettelaw11.RleDecodes", spec := "rleDecodes", unfollowed := true, recurses := true, apart := false }
def RleDecodesSaid : Prop := rleDecodesRow.holds Try.pinned (OpenSpec.ofChange rleDecodesSpec)

/-- ITS FALSE NEIGHBOUR: 'it returns false'. Refute it at one input. -/
def rleDecodesWrong : ChangeSpec := { name := "rleDecodes", fn := fun _ => fun
  | [d1, d2] => { results := [.lit (.bool false)], args := [d1, d2] }
  | _ => none }
def RleDecodesWrongFalsely : Prop := rleDecodesRow.holds Try.pinned (OpenSpec.ofChange rleDecodesWrong)

/-- 'vignettelaw11.RleBack': WHATEVER THE INPUT: true; the input reads as it did. -/
def rleBackSpec : ChangeSpec := { name := "rleBack", fn := fun _ => fun
  | [d1, d2] => { results := [.lit (.bool true)], args := [d1, d2] }
  | _ => none }
def rleBackRow : OpenClaim := { program := "ytgfdlimgndpngaa", sum := "9d64440a9e6484a69acc77b3b049169b2f174714021f236297338712fba68af0", func := "vignette/vignettelaw11.RleBack", spec := "rleBack", unfollowed := true, recurses := true, apart := false }
def RleBackSaid : Prop := rleBackRow.holds Try.pinned (OpenSpec.ofChange rleBackSpec)

/-- ITS FALSE NEIGHBOUR: 'it returns false'. Refute it at one input. -/
def rleBackWrong : ChangeSpec := { name := "rleBack", fn := fun _ => fun
  | [d1, d2] => { results := [.lit (.bool false)], args := [d1, d2] }
  | _ => none }
def RleBackWrongFalsely : Prop := rleBackRow.holds Try.pinned (OpenSpec.ofChange rleBackWrong)

/-- 'vignettelaw11.RleOne': WHATEVER THE INPUT: true; the input reads as it did. -/
def rleOneSpec : ChangeSpec := { name := "rleOne", fn := fun _ => fun
  | [d1, d2] => { results := [.lit (.bool true)], args := [d1, d2] }
  | _ => none }
def rleOneRow : OpenClaim := { program := "ytgfdlimgndpngaa", sum := "9d64440a9e6484a69acc77b3b049169b2f174714021f236297338712fba68af0", func := "vignette/vignettelaw11.RleOne", spec := "rleOne", unfollowed := true, recurses := true, apart := false }
def RleOneSaid : Prop := rleOneRow.holds Try.pinned (OpenSpec.ofChange rleOneSpec)

/-- ITS FALSE NEIGHBOUR: 'it returns false'. Refute it at one input. -/
def rleOneWrong : ChangeSpec := { name := "rleOne", fn := fun _ => fun
  | [d1, d2] => { results := [.lit (.bool false)], args := [d1, d2] }
  | _ => none }
def RleOneWrongFalsely : Prop := rleOneRow.holds Try.pinned (OpenSpec.ofChange rleOneWrong)

/-- 'vignettelaw11.RleKnown': WHATEVER THE INPUT: true; the input reads as it did. -/
def rleKnownSpec : ChangeSpec := { name := "rleKnown", fn := fun _ => fun
  | [] => { results := [.lit (.bool true)], args := [] }
  | _ => none }
def rleKnownRow : OpenClaim := { program := "ytgfdlimgndpngaa", sum := "9d64440a9e6484a69acc77b3b049169b2f174714021f236297338712fba68af0", func := "vignette/vignettelaw11.RleKnown", spec := "rleKnown", unfollowed := true, recurses := true, apart := false }
def RleKnownSaid : Prop := rleKnownRow.holds Try.pinned (OpenSpec.ofChange rleKnownSpec)

/-- ITS FALSE NEIGHBOUR: 'it returns false'. Refute it at one input. -/
def rleKnownWrong : ChangeSpec := { name := "rleKnown", fn := fun _ => fun
  | [] => { results := [.lit (.bool false)], args := [] }
  | _ => none }
def RleKnownWrongFalsely : Prop := rleKnownRow.holds Try.pinned (OpenSpec.ofChange rleKnownWrong)

/-- 'vignettelaw11.RleJoins': WHATEVER THE INPUT: true; the input reads as it did. -/
def rleJoinsSpec : ChangeSpec := { name := "rleJoins", fn := fun _ => fun
  | [d1, d2] => { results := [.lit (.bool true)], args := [d1, d2] }
  | _ => none }
def rleJoinsRow : OpenClaim := { program := "ytgfdlimgndpngaa", sum := "9d64440a9e6484a69acc77b3b049169b2f174714021f236297338712fba68af0", func := "vignette/vignettelaw11.RleJoins", spec := "rleJoins", unfollowed := true, recurses := true, apart := false }
def RleJoinsSaid : Prop := rleJoinsRow.holds Try.pinned (OpenSpec.ofChange rleJoinsSpec)

/-- ITS FALSE NEIGHBOUR: 'it returns false'. Refute it at one input. -/
def rleJoinsWrong : ChangeSpec := { name := "rleJoins", fn := fun _ => fun
  | [d1, d2] => { results := [.lit (.bool false)], args := [d1, d2] }
  | _ => none }
def RleJoinsWrongFalsely : Prop := rleJoinsRow.holds Try.pinned (OpenSpec.ofChange rleJoinsWrong)

/- THE SECOND FORM. 'bulk': how many values and letters a reading holds, each counted each time it is reached (what is shared counts as often as it is met; a slice's spare places count too). A statement '..UptoSaid' is the law's where the arguments, and the package variables that the reading takes, are together of bulk at most 1048576: NARROWER than '..Said'. Prove '..Said' where nothing that the law and all that it calls make is longer than what came in: it says more and counts as full. Else prove '..UptoSaid'. A law counts once. -/
mutual
def uptoBulk {H : Type} : DataW H → Nat
  | .lit (.string bytes) => bytes.length + 1
  | .lit _ => 1
  | .nil => 1
  | .ptr d => uptoBulk d + 1
  | .slice elems spare => uptoBulkAll elems + uptoBulkAll spare + 1
  | .agg parts => uptoBulkAll parts + 1
  | .iface _ d => uptoBulk d + 1
  | .map entries => uptoBulkEntries entries + 1
  | .held _ => 1
def uptoBulkAll {H : Type} : List (DataW H) → Nat
  | [] => 0
  | d :: r => uptoBulk d + uptoBulkAll r
def uptoBulkEntries {H : Type} : List (Lit × DataW H) → Nat
  | [] => 0
  | x :: r => uptoBulkEntry x + uptoBulkEntries r
def uptoBulkEntry {H : Type} : Lit × DataW H → Nat
  | (.string bytes, d) => bytes.length + uptoBulk d + 1
  | (_, d) => uptoBulk d + 1
 end
def uptoSmall : (H : Type) → List (DataW H) → Bool := fun _ ds => decide (uptoBulkAll ds ≤ 1048576)
def OpenSpec.upto (s : _root_.Go.ChangeSpec) : _root_.Go.OpenSpec := { _root_.Go.OpenSpec.ofChange s with cond := some uptoSmall }

/-- 'vignettelaw11.RleEncodes', WHERE WHAT IT READS IS OF BULK AT MOST 1048576: true; the input reads as it did. -/
def rleEncodesUptoRow : OpenClaim := { program := "ytgfdlimgndpngaa", sum := "9d64440a9e6484a69acc77b3b049169b2f174714021f236297338712fba68af0", func := "vignette/vignettelaw11.RleEncodes", spec := "rleEncodes", unfollowed := true, recurses := true, apart := false, narrowed := true }
def RleEncodesUptoSaid : Prop := rleEncodesUptoRow.holds Try.pinned (OpenSpec.upto rleEncodesSpec)

/-- 'vignettelaw11.RleDecodes', WHERE WHAT IT READS IS OF BULK AT MOST 1048576: true; the input reads as it did. -/
def rleDecodesUptoRow : OpenClaim := { program := "ytgfdlimgndpngaa", sum := "9d64440a9e6484a69acc77b3b049169b2f174714021f236297338712fba68af0", func := "vignette/vignettelaw11.RleDecodes", spec := "rleDecodes", unfollowed := true, recurses := true, apart := false, narrowed := true }
def RleDecodesUptoSaid : Prop := rleDecodesUptoRow.holds Try.pinned (OpenSpec.upto rleDecodesSpec)

/-- 'vignettelaw11.RleBack', WHERE WHAT IT READS IS OF BULK AT MOST 1048576: true; the input reads as it did. -/
def rleBackUptoRow : OpenClaim := { program := "ytgfdlimgndpngaa", sum := "9d64440a9e6484a69acc77b3b049169b2f174714021f236297338712fba68af0", func := "vignette/vignettelaw11.RleBack", spec := "rleBack", unfollowed := true, recurses := true, apart := false, narrowed := true }
def RleBackUptoSaid : Prop := rleBackUptoRow.holds Try.pinned (OpenSpec.upto rleBackSpec)

/-- 'vignettelaw11.RleOne', WHERE WHAT IT READS IS OF BULK AT MOST 1048576: true; the input reads as it did. -/
def rleOneUptoRow : OpenClaim := { program := "ytgfdlimgndpngaa", sum := "9d64440a9e6484a69acc77b3b049169b2f174714021f236297338712fba68af0", func := "vignette/vignettelaw11.RleOne", spec := "rleOne", unfollowed := true, recurses := true, apart := false, narrowed := true }
def RleOneUptoSaid : Prop := rleOneUptoRow.holds Try.pinned (OpenSpec.upto rleOneSpec)

/-- 'vignettelaw11.RleKnown', WHERE WHAT IT READS IS OF BULK AT MOST 1048576: true; the input reads as it did. -/
def rleKnownUptoRow : OpenClaim := { program := "ytgfdlimgndpngaa", sum := "9d64440a9e6484a69acc77b3b049169b2f174714021f236297338712fba68af0", func := "vignette/vignettelaw11.RleKnown", spec := "rleKnown", unfollowed := true, recurses := true, apart := false, narrowed := true }
def RleKnownUptoSaid : Prop := rleKnownUptoRow.holds Try.pinned (OpenSpec.upto rleKnownSpec)

/-- 'vignettelaw11.RleJoins', WHERE WHAT IT READS IS OF BULK AT MOST 1048576: true; the input reads as it did. -/
def rleJoinsUptoRow : OpenClaim := { program := "ytgfdlimgndpngaa", sum := "9d64440a9e6484a69acc77b3b049169b2f174714021f236297338712fba68af0", func := "vignette/vignettelaw11.RleJoins", spec := "rleJoins", unfollowed := true, recurses := true, apart := false, narrowed := true }
def RleJoinsUptoSaid : Prop := rleJoinsUptoRow.holds Try.pinned (OpenSpec.upto rleJoinsSpec)

end Rows
end Go.Proofs.Ytgfdlimgndpngaa
