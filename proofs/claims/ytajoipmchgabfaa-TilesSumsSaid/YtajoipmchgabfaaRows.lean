/-
  No cell of these rows narrows 'for every input' (looked for: loops, veiled, ifaces, maps, wideKeys, modest, calm, conditions, laid).
  DERIVED. THE GIVEN ROWS OF THIS SEAT. 2 by the template 'for every input the law returns true; each argument reads behind the call as it read before'; 0 by the template 'total and deterministic' (their statements: YtajoipmchgabfaaTotals.lean).
  GIVEN WITH THE SEED: the statements are not yours to turn. If you find one false, say at which input.
  Laid BY PROGRAM, IN A SANDBOX (cutbox-rows.mjs): the forced cells as the released guide's own fill.sh prints them over the translation 085ad963c706e21d… (all of the seat's roots in one cut). By AI agents, Wed Nov 11 2026. No macro, syntax, notation, axiom, sorry.
-/
import Derived.Test.YtajoipmchgabfaaChecked
import GoSem.Claim
import GoSem.ClaimJoined
import GoSem.ClaimMapViews
import Derived.JoinedTies
import Derived.KernelRfl
namespace Go.Proofs.Ytajoipmchgabfaa
/- THE CELL 'sum', in the pinned program and in every row, IS THE sha256 OF THE DUMP (.gsa) THAT YtajoipmchgabfaaProg.lean LOADS. Nothing in Lean hashes anything: it is a label: what it is worth is what the hold of that sum in a sandbox is worth. -/
noncomputable def Try.pinned : Pinned := { name := "ytajoipmchgabfaa", sum := "085ad963c706e21d8ad60c81a0ce34dd161f8e6734fc96782f4f6c6e1b1c8cb2", checked := Try.checked }
namespace Rows
def none {H : Type} : Left H := { results := [], args := [] }

/-- 'vignettelaw03.PixbufPlays': WHATEVER THE INPUT: true; the input reads as it did. -/
def pixbufPlaysSpec : ChangeSpec := { name := "pixbufPlays", fn := fun _ => fun
  | [d1, d2] => { results := [.lit (.bool true)], args := [d1, d2] }
  | _ => none }
def pixbufPlaysRow : OpenClaim := { program := "ytajoipmchgabfaa", sum := "085ad963c706e21d8ad60c81a0ce34dd161f8e6734fc96782f4f6c6e1b1c8cb2", func := "vignette/vignettelaw03.PixbufPlays", spec := "pixbufPlays", unfollowed := true, recurses := true, apart := false }
def PixbufPlaysSaid : Prop := pixbufPlaysRow.holds Try.pinned (OpenSpec.ofChange pixbufPlaysSpec)

/-- ITS FALSE NEIGHBOUR: 'it returns false'. Refute it at one input. -/
def pixbufPlaysWrong : ChangeSpec := { name := "pixbufPlays", fn := fun _ => fun
  | [d1, d2] => { results := [.lit (.bool false)], args := [d1, d2] }
  | _ => none }
def PixbufPlaysWrongFalsely : Prop := pixbufPlaysRow.holds Try.pinned (OpenSpec.ofChange pixbufPlaysWrong)

/-- 'vignettelaw10.TilesSums': WHATEVER THE INPUT: true; the input reads as it did. -/
def tilesSumsSpec : ChangeSpec := { name := "tilesSums", fn := fun _ => fun
  | [d1, d2, d3] => { results := [.lit (.bool true)], args := [d1, d2, d3] }
  | _ => none }
def tilesSumsRow : OpenClaim := { program := "ytajoipmchgabfaa", sum := "085ad963c706e21d8ad60c81a0ce34dd161f8e6734fc96782f4f6c6e1b1c8cb2", func := "vignette/vignettelaw10.TilesSums", spec := "tilesSums", unfollowed := true, recurses := true, apart := false }
def TilesSumsSaid : Prop := tilesSumsRow.holds Try.pinned (OpenSpec.ofChange tilesSumsSpec)

/-- ITS FALSE NEIGHBOUR: 'it returns false'. Refute it at one input. -/
def tilesSumsWrong : ChangeSpec := { name := "tilesSums", fn := fun _ => fun
  | [d1, d2, d3] => { results := [.lit (.bool false)], args := [d1, d2, d3] }
  | _ => none }
def TilesSumsWrongFalsely : Prop := tilesSumsRow.holds Try.pinned (OpenSpec.ofChange tilesSumsWrong)

/- THE SECOND FORM. 'bulk': how many values and letters a reading holds, each counted each time it is reached (what is shared counts as often as it is met; a slice's spare places count too). A statement '..UptoSaid' is the law's where the arguments, and the package variables that the reading takes, are together of bulk at most 1048576: NARROWER than '..Said'. Prove '..Said' where nothing that the law and all that it calls make is longer than what came in: it says more and counts as full. Else prove '..UptoSaid'. A law counts once. -/
mutual
def uptoBulk {H : Type} : DataW H → Nat
  | .lit (.string bytes) => bytes.length + 1
  | .lit _ => 1
  | .nil => 1
  | .ptr d => uptoBulk d + 1
  | .slice elems spare => uptoBulkAll elems + uptoBulkAll spare + 1
  | .agg parts => uptoBulkAll parts + 1
  | .iface _ d => uptoBulk d + 1
  | .map entries => uptoBulkEntries entries + 1
  | .held _ => 1
def uptoBulkAll {H : Type} : List (DataW H) → Nat
  | [] => 0
  | d :: r => uptoBulk d + uptoBulkAll r
def uptoBulkEntries {H : Type} : List (Lit × DataW H) → Nat
  | [] => 0
  | x :: r => uptoBulkEntry x + uptoBulkEntries r
def uptoBulkEntry {H : Type} : Lit × DataW H → Nat
  | (.string bytes, d) => bytes.length + uptoBulk d + 1
  | (_, d) => uptoBulk d + 1
 end
def uptoSmall : (H : Type) → List (DataW H) → Bool := fun _ ds => decide (uptoBulkAll ds ≤ 1048576)
def OpenSpec.upto (s : _root_.Go.ChangeSpec) : _root_.Go.OpenSpec := { _root_.Go.OpenSpec.ofChange s with cond := some uptoSmall }

/-- 'vignettelaw03.PixbufPlays', WHERE WHAT IT READS IS OF BULK AT MOST 1048576: true; the input reads as it did. -/
def pixbufPlaysUptoRow : OpenClaim := { program := "ytajoipmchgabfaa", sum := "085ad963c706e21d8ad60c81a0ce34dd161f8e6734fc96782f4f6c6e1b1c8cb2", func := "vignette/vignettelaw03.PixbufPlays", spec := "pixbufPlays", unfollowed := true, recurses := true, apart := false, narrowed := true }
def PixbufPlaysUptoSaid : Prop := pixbufPlaysUptoRow.holds Try.pinned (OpenSpec.upto pixbufPlaysSpec)

/-- 'vignettelaw10.TilesSums', WHERE WHAT IT READS IS OF BULK AT MOST 1048576: true; the input reads as it did. -/
def tilesSumsUptoRow : OpenClaim := { program := "ytajoipmchgabfaa", sum := "085ad963c706e21d8ad60c81a0ce34dd161f8e6734fc96782f4f6c6e1b1c8cb2", func := "vignette/vignettelaw10.TilesSums", spec := "tilesSums", unfollowed := true, recurses := true, apart := false, narrowed := true }
def TilesSumsUptoSaid : Prop := tilesSumsUptoRow.holds Try.pinned (OpenSpec.upto tilesSumsSpec)

end Rows
end Go.Proofs.Ytajoipmchgabfaa
