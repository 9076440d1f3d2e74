/-
  No cell of these rows narrows 'for every input' (looked for: loops, veiled, ifaces, maps, wideKeys, modest, calm, conditions, laid).
  DERIVED. THE GIVEN ROWS OF THIS SEAT. 5 by the template 'for every input the law returns true; each argument reads behind the call as it read before'; 0 by the template 'total and deterministic' (their statements: YtpddkhhdleknnaaTotals.lean).
  GIVEN WITH THE SEED: the statements are not yours to turn. If you find one false, say at which input.
  Laid BY PROGRAM, IN A SANDBOX (cutbox-rows.mjs): the forced cells as the released guide's own fill.sh prints them over the translation ecf180cf259db338… (all of the seat's roots in one cut). By AI agents, Wed Nov 11 2026. No macro, syntax, notation, axiom, sorry.
-/
import Derived.Test.YtpddkhhdleknnaaChecked
import GoSem.Claim
import GoSem.ClaimJoined
import GoSem.ClaimMapViews
import Derived.JoinedTies
import Derived.KernelRfl
namespace Go.Proofs.Ytpddkhhdleknnaa
/- THE CELL 'sum', in the pinned program and in every row, IS THE sha256 OF THE DUMP (.gsa) THAT YtpddkhhdleknnaaProg.lean LOADS. Nothing in Lean hashes anything: it is a label: what it is worth is what the hold of that sum in a sandbox is worth. -/
noncomputable def Try.pinned : Pinned := { name := "ytpddkhhdleknnaa", sum := "ecf180cf259db3383e7c8986b3e1b85fa8239d1bb5c4e7d35cb0f86c9cc76a5e", checked := Try.checked }
namespace Rows
def none {H : Type} : Left H := { results := [], args := [] }

/-- 'vignettelaw02.RegionSets': WHATEVER THE INPUT: true; the input reads as it did. -/
def regionSetsSpec : ChangeSpec := { name := "regionSets", fn := fun _ => fun
  | [d1, d2] => { results := [.lit (.bool true)], args := [d1, d2] }
  | _ => none }
def regionSetsRow : OpenClaim := { program := "ytpddkhhdleknnaa", sum := "ecf180cf259db3383e7c8986b3e1b85fa8239d1bb5c4e7d35cb0f86c9cc76a5e", func := "vignette/vignettelaw02.RegionSets", spec := "regionSets", unfollowed := true, recurses := true, apart := false }
def RegionSetsSaid : Prop := regionSetsRow.holds Try.pinned (OpenSpec.ofChange regionSetsSpec)

/-- ITS FALSE NEIGHBOUR: 'it returns false'. Refute it at one input. -/
def regionSetsWrong : ChangeSpec := { name := "regionSets", fn := fun _ => fun
  | [d1, d2] => { results := [.lit (.bool false)], args := [d1, d2] }
  | _ => none }
def RegionSetsWrongFalsely : Prop := regionSetsRow.holds Try.pinned (OpenSpec.ofChange regionSetsWrong)

/-- 'vignettelaw02.RegionLooks': WHATEVER THE INPUT: true; the input reads as it did. -/
def regionLooksSpec : ChangeSpec := { name := "regionLooks", fn := fun _ => fun
  | [d1, d2, d3, d4] => { results := [.lit (.bool true)], args := [d1, d2, d3, d4] }
  | _ => none }
def regionLooksRow : OpenClaim := { program := "ytpddkhhdleknnaa", sum := "ecf180cf259db3383e7c8986b3e1b85fa8239d1bb5c4e7d35cb0f86c9cc76a5e", func := "vignette/vignettelaw02.RegionLooks", spec := "regionLooks", unfollowed := true, recurses := true, apart := false }
def RegionLooksSaid : Prop := regionLooksRow.holds Try.pinned (OpenSpec.ofChange regionLooksSpec)

/-- ITS FALSE NEIGHBOUR: 'it returns false'. Refute it at one input. -/
def regionLooksWrong : ChangeSpec := { name := "regionLooks", fn := fun _ => fun
  | [d1, d2, d3, d4] => { results := [.lit (.bool false)], args := [d1, d2, d3, d4] }
  | _ => none }
def RegionLooksWrongFalsely : Prop := regionLooksRow.holds Try.pinned (OpenSpec.ofChange regionLooksWrong)

/-- 'vignettelaw03.PixbufPlays': WHATEVER THE INPUT: true; the input reads as it did. -/
def pixbufPlaysSpec : ChangeSpec := { name := "pixbufPlays", fn := fun _ => fun
  | [d1, d2] => { results := [.lit (.bool true)], args := [d1, d2] }
  | _ => none }
def pixbufPlaysRow : OpenClaim := { program := "ytpddkhhdleknnaa", sum := "ecf180cf259db3383e7c8986b3e1b85fa8239d1bb5c4e7d35cb0f86c9cc76a5e", func := "vignette/vignettelaw03.PixbufPlays", spec := "pixbufPlays", unfollowed := true, recurses := true, apart := false }
def PixbufPlaysSaid : Prop := pixbufPlaysRow.holds Try.pinned (OpenSpec.ofChange pixbufPlaysSpec)

/-- ITS FALSE NEIGHBOUR: 'it returns false'. Refute it at one input. -/
def pixbufPlaysWrong : ChangeSpec := { name := "pixbufPlays", fn := fun _ => fun
  | [d1, d2] => { results := [.lit (.bool false)], args := [d1, d2] }
  | _ => none }
def PixbufPlaysWrongFalsely : Prop := pixbufPlaysRow.holds Try.pinned (OpenSpec.ofChange pixbufPlaysWrong)

/-- 'vignettelaw03.PixbufTwo': WHATEVER THE INPUT: true; the input reads as it did. -/
def pixbufTwoSpec : ChangeSpec := { name := "pixbufTwo", fn := fun _ => fun
  | [d1, d2, d3, d4] => { results := [.lit (.bool true)], args := [d1, d2, d3, d4] }
  | _ => none }
def pixbufTwoRow : OpenClaim := { program := "ytpddkhhdleknnaa", sum := "ecf180cf259db3383e7c8986b3e1b85fa8239d1bb5c4e7d35cb0f86c9cc76a5e", func := "vignette/vignettelaw03.PixbufTwo", spec := "pixbufTwo", unfollowed := true, recurses := true, apart := false }
def PixbufTwoSaid : Prop := pixbufTwoRow.holds Try.pinned (OpenSpec.ofChange pixbufTwoSpec)

/-- ITS FALSE NEIGHBOUR: 'it returns false'. Refute it at one input. -/
def pixbufTwoWrong : ChangeSpec := { name := "pixbufTwo", fn := fun _ => fun
  | [d1, d2, d3, d4] => { results := [.lit (.bool false)], args := [d1, d2, d3, d4] }
  | _ => none }
def PixbufTwoWrongFalsely : Prop := pixbufTwoRow.holds Try.pinned (OpenSpec.ofChange pixbufTwoWrong)

/-- 'vignettelaw03.PixbufJust': WHATEVER THE INPUT: true; the input reads as it did. -/
def pixbufJustSpec : ChangeSpec := { name := "pixbufJust", fn := fun _ => fun
  | [d1, d2] => { results := [.lit (.bool true)], args := [d1, d2] }
  | _ => none }
def pixbufJustRow : OpenClaim := { program := "ytpddkhhdleknnaa", sum := "ecf180cf259db3383e7c8986b3e1b85fa8239d1bb5c4e7d35cb0f86c9cc76a5e", func := "vignette/vignettelaw03.PixbufJust", spec := "pixbufJust", unfollowed := true, recurses := true, apart := false }
def PixbufJustSaid : Prop := pixbufJustRow.holds Try.pinned (OpenSpec.ofChange pixbufJustSpec)

/-- ITS FALSE NEIGHBOUR: 'it returns false'. Refute it at one input. -/
def pixbufJustWrong : ChangeSpec := { name := "pixbufJust", fn := fun _ => fun
  | [d1, d2] => { results := [.lit (.bool false)], args := [d1, d2] }
  | _ => none }
def PixbufJustWrongFalsely : Prop := pixbufJustRow.holds Try.pinned (OpenSpec.ofChange pixbufJustWrong)

/- THE SECOND FORM. 'bulk': how many values and letters a reading holds, each counted each time it is reached (what is shared counts as often as it is met; a slice's spare places count too). A statement '..UptoSaid' is the law's where the arguments, and the package variables that the reading takes, are together of bulk at most 1048576: NARROWER than '..Said'. Prove '..Said' where nothing that the law and all that it calls make is longer than what came in: it says more and counts as full. Else prove '..UptoSaid'. A law counts once. -/
mutual
def uptoBulk {H : Type} : DataW H → Nat
  | .lit (.string bytes) => bytes.length + 1
  | .lit _ => 1
  | .nil => 1
  | .ptr d => uptoBulk d + 1
  | .slice elems spare => uptoBulkAll elems + uptoBulkAll spare + 1
  | .agg parts => uptoBulkAll parts + 1
  | .iface _ d => uptoBulk d + 1
  | .map entries => uptoBulkEntries entries + 1
  | .held _ => 1
def uptoBulkAll {H : Type} : List (DataW H) → Nat
  | [] => 0
  | d :: r => uptoBulk d + uptoBulkAll r
def uptoBulkEntries {H : Type} : List (Lit × DataW H) → Nat
  | [] => 0
  | x :: r => uptoBulkEntry x + uptoBulkEntries r
def uptoBulkEntry {H : Type} : Lit × DataW H → Nat
  | (.string bytes, d) => bytes.length + uptoBulk d + 1
  | (_, d) => uptoBulk d + 1
 end
def uptoSmall : (H : Type) → List (DataW H) → Bool := fun _ ds => decide (uptoBulkAll ds ≤ 1048576)
def OpenSpec.upto (s : _root_.Go.ChangeSpec) : _root_.Go.OpenSpec := { _root_.Go.OpenSpec.ofChange s with cond := some uptoSmall }

/-- 'vignettelaw02.RegionSets', WHERE WHAT IT READS IS OF BULK AT MOST 1048576: true; the input reads as it did. -/
def regionSetsUptoRow : OpenClaim := { program := "ytpddkhhdleknnaa", sum := "ecf180cf259db3383e7c8986b3e1b85fa8239d1bb5c4e7d35cb0f86c9cc76a5e", func := "vignette/vignettelaw02.RegionSets", spec := "regionSets", unfollowed := true, recurses := true, apart := false, narrowed := true }
def RegionSetsUptoSaid : Prop := regionSetsUptoRow.holds Try.pinned (OpenSpec.upto regionSetsSpec)

/-- 'vignettelaw02.RegionLooks', WHERE WHAT IT READS IS OF BULK AT MOST 1048576: true; the input reads as it did. -/
def regionLooksUptoRow : OpenClaim := { program := "ytpddkhhdleknnaa", sum := "ecf180cf259db3383e7c8986b3e1b85fa8239d1bb5c4e7d35cb0f86c9cc76a5e", func := "vignette/vignettelaw02.RegionLooks", spec := "regionLooks", unfollowed := true, recurses := true, apart := false, narrowed := true }
def RegionLooksUptoSaid : Prop := regionLooksUptoRow.holds Try.pinned (OpenSpec.upto regionLooksSpec)

/-- 'vignettelaw03.PixbufPlays', WHERE WHAT IT READS IS OF BULK AT MOST 1048576: true; the input reads as it did. -/
def pixbufPlaysUptoRow : OpenClaim := { program := "ytpddkhhdleknnaa", sum := "ecf180cf259db3383e7c8986b3e1b85fa8239d1bb5c4e7d35cb0f86c9cc76a5e", func := "vignette/vignettelaw03.PixbufPlays", spec := "pixbufPlays", unfollowed := true, recurses := true, apart := false, narrowed := true }
def PixbufPlaysUptoSaid : Prop := pixbufPlaysUptoRow.holds Try.pinned (OpenSpec.upto pixbufPlaysSpec)

/-- 'vignettelaw03.PixbufTwo', WHERE WHAT IT READS IS OF BULK AT MOST 1048576: true; the input reads as it did. -/
def pixbufTwoUptoRow : OpenClaim := { program := "ytpddkhhdleknnaa", sum := "ecf180cf259db3383e7c8986b3e1b85fa8239d1bb5c4e7d35cb0f86c9cc76a5e", func := "vignette/vignettelaw03.PixbufTwo", spec := "pixbufTwo", unfollowed := true, recurses := true, apart := false, narrowed := true }
def PixbufTwoUptoSaid : Prop := pixbufTwoUptoRow.holds Try.pinned (OpenSpec.upto pixbufTwoSpec)

/-- 'vignettelaw03.PixbufJust', WHERE WHAT IT READS IS OF BULK AT MOST 1048576: true; the input reads as it did. -/
def pixbufJustUptoRow : OpenClaim := { program := "ytpddkhhdleknnaa", sum := "ecf180cf259db3383e7c8986b3e1b85fa8239d1bb5c4e7d35cb0f86c9cc76a5e", func := "vignette/vignettelaw03.PixbufJust", spec := "pixbufJust", unfollowed := true, recurses := true, apart := false, narrowed := true }
def PixbufJustUptoSaid : Prop := pixbufJustUptoRow.holds Try.pinned (OpenSpec.upto pixbufJustSpec)

end Rows
end Go.Proofs.Ytpddkhhdleknnaa
