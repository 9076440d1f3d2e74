/-
  No cell of these rows narrows 'for every input' (looked for: loops, veiled, ifaces, maps, wideKeys, modest, calm, conditions, laid).
  DERIVED. THE GIVEN ROWS OF THIS SEAT. 3 by the template 'for every input the law returns true; each argument reads behind the call as it read before'; 0 by the template 'total and deterministic' (their statements: YthmnmicjnpafjaaTotals.lean).
  GIVEN WITH THE SEED: the statements are not yours to turn. If you find one false, say at which input.
  Laid BY PROGRAM, IN A SANDBOX (cutbox-rows.mjs): the forced cells as the released guide's own fill.sh prints them over the translation 1da2132d24b0afde… (all of the seat's roots in one cut). By AI agents, Wed Nov 11 2026. No macro, syntax, notation, axiom, sorry.
-/
import Derived.Test.YthmnmicjnpafjaaChecked
import GoSem.Claim
import GoSem.ClaimJoined
import GoSem.ClaimMapViews
import Derived.JoinedTies
import Derived.KernelRfl
namespace Go.Proofs.Ythmnmicjnpafjaa
/- THE CELL 'sum', in the pinned program and in every row, IS THE sha256 OF THE DUMP (.gsa) THAT YthmnmicjnpafjaaProg.lean LOADS. Nothing in Lean hashes anything: it is a label: what it is worth is what the hold of that sum in a sandbox is worth. -/
noncomputable def Try.pinned : Pinned := { name := "ythmnmicjnpafjaa", sum := "1da2132d24b0afde20b63b5187c24d9c49a72192bbe9d1807d4282b797cab334", checked := Try.checked }
namespace Rows
def none {H : Type} : Left H := { results := [], args := [] }

/-- 'vignettelaw03.PixbufPlays': WHATEVER THE INPUT: true; the input reads as it did. -/
def pixbufPlaysSpec : ChangeSpec := { name := "pixbufPlays", fn := fun _ => fun
  | [d1, d2] => { results := [.lit (.bool true)], args := [d1, d2] }
  | _ => none }
def pixbufPlaysRow : OpenClaim := { program := "ythmnmicjnpafjaa", sum := "1da2132d24b0afde20b63b5187c24d9c49a72192bbe9d1807d4282b797cab334", func := "vignette/vignettelaw03.PixbufPlays", spec := "pixbufPlays", unfollowed := true, recurses := true, apart := false }
def PixbufPlaysSaid : Prop := pixbufPlaysRow.holds Try.pinned (OpenSpec.ofChange pixbufPlaysSpec)

/-- ITS FALSE NEIGHBOUR: 'it returns false'. Refute it at one input. -/
def pixbufPlaysWrong : ChangeSpec := { name := "pixbufPlays", fn := fun _ => fun
  | [d1, d2] => { results := [.lit (.bool false)], args := [d1, d2] }
  | _ => none }
def PixbufPlaysWrongFalsely : Prop := pixbufPlaysRow.holds Try.pinned (OpenSpec.ofChange pixbufPlaysWrong)

/-- 'vignettelaw03.PixbufParts': WHATEVER THE INPUT: true; the input reads as it did. -/
def pixbufPartsSpec : ChangeSpec := { name := "pixbufParts", fn := fun _ => fun
  | [d1, d2, d3] => { results := [.lit (.bool true)], args := [d1, d2, d3] }
  | _ => none }
def pixbufPartsRow : OpenClaim := { program := "ythmnmicjnpafjaa", sum := "1da2132d24b0afde20b63b5187c24d9c49a72192bbe9d1807d4282b797cab334", func := "vignette/vignettelaw03.PixbufParts", spec := "pixbufParts", unfollowed := true, recurses := true, apart := false }
def PixbufPartsSaid : Prop := pixbufPartsRow.holds Try.pinned (OpenSpec.ofChange pixbufPartsSpec)

/-- ITS FALSE NEIGHBOUR: 'it returns false'. Refute it at one input. -/
def pixbufPartsWrong : ChangeSpec := { name := "pixbufParts", fn := fun _ => fun
  | [d1, d2, d3] => { results := [.lit (.bool false)], args := [d1, d2, d3] }
  | _ => none }
def PixbufPartsWrongFalsely : Prop := pixbufPartsRow.holds Try.pinned (OpenSpec.ofChange pixbufPartsWrong)

/-- 'vignettelaw03.PixbufBlits': WHATEVER THE INPUT: true; the input reads as it did. -/
def pixbufBlitsSpec : ChangeSpec := { name := "pixbufBlits", fn := fun _ => fun
  | [d1, d2, d3, d4, d5] => { results := [.lit (.bool true)], args := [d1, d2, d3, d4, d5] }
  | _ => none }
def pixbufBlitsRow : OpenClaim := { program := "ythmnmicjnpafjaa", sum := "1da2132d24b0afde20b63b5187c24d9c49a72192bbe9d1807d4282b797cab334", func := "vignette/vignettelaw03.PixbufBlits", spec := "pixbufBlits", unfollowed := true, recurses := true, apart := false }
def PixbufBlitsSaid : Prop := pixbufBlitsRow.holds Try.pinned (OpenSpec.ofChange pixbufBlitsSpec)

/-- ITS FALSE NEIGHBOUR: 'it returns false'. Refute it at one input. -/
def pixbufBlitsWrong : ChangeSpec := { name := "pixbufBlits", fn := fun _ => fun
  | [d1, d2, d3, d4, d5] => { results := [.lit (.bool false)], args := [d1, d2, d3, d4, d5] }
  | _ => none }
def PixbufBlitsWrongFalsely : Prop := pixbufBlitsRow.holds Try.pinned (OpenSpec.ofChange pixbufBlitsWrong)

/- THE SECOND FORM. 'bulk': how many values and letters a reading holds, each counted each time it is reached (what is shared counts as often as it is met; a slice's spare places count too). A statement '..UptoSaid' is the law's where the arguments, and the package variables that the reading takes, are together of bulk at most 1048576: NARROWER than '..Said'. Prove '..Said' where nothing that the law and all that it calls make is longer than what came in: it says more and counts as full. Else prove '..UptoSaid'. A law counts once. -/
mutual
def uptoBulk {H : Type} : DataW H → Nat
  | .lit (.string bytes) => bytes.length + 1
  | .lit _ => 1
  | .nil => 1
  | .ptr d => uptoBulk d + 1
  | .slice elems spare => uptoBulkAll elems + uptoBulkAll spare + 1
  | .agg parts => uptoBulkAll parts + 1
  | .iface _ d => uptoBulk d + 1
  | .map entries => uptoBulkEntries entries + 1
  | .held _ => 1
def uptoBulkAll {H : Type} : List (DataW H) → Nat
  | [] => 0
  | d :: r => uptoBulk d + uptoBulkAll r
def uptoBulkEntries {H : Type} : List (Lit × DataW H) → Nat
  | [] => 0
  | x :: r => uptoBulkEntry x + uptoBulkEntries r
def uptoBulkEntry {H : Type} : Lit × DataW H → Nat
  | (.string bytes, d) => bytes.length + uptoBulk d + 1
  | (_, d) => uptoBulk d + 1
 end
def uptoSmall : (H : Type) → List (DataW H) → Bool := fun _ ds => decide (uptoBulkAll ds ≤ 1048576)
def OpenSpec.upto (s : _root_.Go.ChangeSpec) : _root_.Go.OpenSpec := { _root_.Go.OpenSpec.ofChange s with cond := some uptoSmall }

/-- 'vignettelaw03.PixbufPlays', WHERE WHAT IT READS IS OF BULK AT MOST 1048576: true; the input reads as it did. -/
def pixbufPlaysUptoRow : OpenClaim := { program := "ythmnmicjnpafjaa", sum := "1da2132d24b0afde20b63b5187c24d9c49a72192bbe9d1807d4282b797cab334", func := "vignette/vignettelaw03.PixbufPlays", spec := "pixbufPlays", unfollowed := true, recurses := true, apart := false, narrowed := true }
def PixbufPlaysUptoSaid : Prop := pixbufPlaysUptoRow.holds Try.pinned (OpenSpec.upto pixbufPlaysSpec)

/-- 'vignettelaw03.PixbufParts', WHERE WHAT IT READS IS OF BULK AT MOST 1048576: true; the input reads as it did. -/
def pixbufPartsUptoRow : OpenClaim := { program := "ythmnmicjnpafjaa", sum := "1da2132d24b0afde20b63b5187c24d9c49a72192bbe9d1807d4282b797cab334", func := "vignette/vignettelaw03.PixbufParts", spec := "pixbufParts", unfollowed := true, recurses := true, apart := false, narrowed := true }
def PixbufPartsUptoSaid : Prop := pixbufPartsUptoRow.holds Try.pinned (OpenSpec.upto pixbufPartsSpec)

/-- 'vignettelaw03.PixbufBlits', WHERE WHAT IT READS IS OF BULK AT MOST 1048576: true; the input reads as it did. -/
def pixbufBlitsUptoRow : OpenClaim := { program := "ythmnmicjnpafjaa", sum := "1da2132d24b0afde20b63b5187c24d9c49a72192bbe9d1807d4282b797cab334", func := "vignette/vignettelaw03.PixbufBlits", spec := "pixbufBlits", unfollowed := true, recurses := true, apart := false, narrowed := true }
def PixbufBlitsUptoSaid : Prop := pixbufBlitsUptoRow.holds Try.pinned (OpenSpec.upto pixbufBlitsSpec)

end Rows
end Go.Proofs.Ythmnmicjnpafjaa
