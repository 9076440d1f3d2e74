/-
  No cell of these rows narrows 'for every input' (looked for: loops, veiled, ifaces, maps, wideKeys, modest, calm, conditions, laid).
  DERIVED. THE GIVEN ROWS OF THIS SEAT. 8 by the template 'for every input the law returns true; each argument reads behind the call as it read before'; 0 by the template 'total and deterministic' (their statements: YtiamooijflaggaaTotals.lean).
  GIVEN WITH THE SEED: the statements are not yours to turn. If you find one false, say at which input.
  Laid BY PROGRAM, IN A SANDBOX (cutbox-rows.mjs): the forced cells as the released guide's own fill.sh prints them over the translation 64ae0773ae2520f5… (all of the seat's roots in one cut). By AI agents, Wed Nov 11 2026. No macro, syntax, notation, axiom, sorry.
-/
import Derived.Test.YtiamooijflaggaaChecked
import GoSem.Claim
import GoSem.ClaimJoined
import GoSem.ClaimMapViews
import Derived.JoinedTies
import Derived.KernelRfl
namespace Go.Proofs.Ytiamooijflaggaa
/- THE CELL 'sum', in the pinned program and in every row, IS THE sha256 OF THE DUMP (.gsa) THAT YtiamooijflaggaaProg.lean LOADS. Nothing in Lean hashes anything: it is a label: what it is worth is what the hold of that sum in a sandbox is worth. -/
noncomputable def Try.pinned : Pinned := { name := "ytiamooijflaggaa", sum := "64ae0773ae2520f5322ae04d5ce9c65f7d561b346c821571addc2e24a9eccecc", checked := Try.checked }
namespace Rows
def none {H : Type} : Left H := { results := [], args := [] }

/-- 'vignettelaw02.RegionSets': WHATEVER THE INPUT: true; the input reads as it did. -/
def regionSetsSpec : ChangeSpec := { name := "regionSets", fn := fun _ => fun
  | [d1, d2] => { results := [.lit (.bool true)], args := [d1, d2] }
  | _ => none }
def regionSetsRow : OpenClaim := { program := "ytiamooijflaggaa", sum := "64ae0773ae2520f5322ae04d5ce9c65f7d561b346c821571addc2e24a9eccecc", func := "vignette/vignettelaw02.RegionSets", spec := "regionSets", unfollowed := true, recurses := true, apart := false }
def RegionSetsSaid : Prop := regionSetsRow.holds Try.pinned (OpenSpec.ofChange regionSetsSpec)

/-- ITS FALSE NEIGHBOUR: 'it returns false'. Refute it at one input. -/
def regionSetsWrong : ChangeSpec := { name := "regionSets", fn := fun _ => fun
  | [d1, d2] => { results := [.lit (.bool false)], args := [d1, d2] }
  | _ => none }
def RegionSetsWrongFalsely : Prop := regionSetsRow.holds Try.pinned (OpenSpec.ofChange regionSetsWrong)

/-- 'vignettelaw02.RegionLooks': WHATEVER THE INPUT: true; the input reads as it did. -/
def regionLooksSpec : ChangeSpec := { name := "regionLooks", fn := fun _ => fun
  | [d1, d2, d3, d4] => { results := [.lit (.bool true)], args := [d1, d2, d3, d4] }
  | _ => none }
def regionLooksRow : OpenClaim := { program := "ytiamooijflaggaa", sum := "64ae0773ae2520f5322ae04d5ce9c65f7d561b346c821571addc2e24a9eccecc", func := "vignette/vignettelaw02.RegionLooks", spec := "regionLooks", unfollowed := true, recurses := true, apart := false }
def RegionLooksSaid : Prop := regionLooksRow.holds Try.pinned (OpenSpec.ofChange regionLooksSpec)

/-- ITS FALSE NEIGHBOUR: 'it returns false'. Refute it at one input. -/
def regionLooksWrong : ChangeSpec := { name := "regionLooks", fn := fun _ => fun
  | [d1, d2, d3, d4] => { results := [.lit (.bool false)], args := [d1, d2, d3, d4] }
  | _ => none }
def RegionLooksWrongFalsely : Prop := regionLooksRow.holds Try.pinned (OpenSpec.ofChange regionLooksWrong)

/-- 'vignettelaw03.PixbufPlays': WHATEVER THE INPUT: true; the input reads as it did. -/
def pixbufPlaysSpec : ChangeSpec := { name := "pixbufPlays", fn := fun _ => fun
  | [d1, d2] => { results := [.lit (.bool true)], args := [d1, d2] }
  | _ => none }
def pixbufPlaysRow : OpenClaim := { program := "ytiamooijflaggaa", sum := "64ae0773ae2520f5322ae04d5ce9c65f7d561b346c821571addc2e24a9eccecc", func := "vignette/vignettelaw03.PixbufPlays", spec := "pixbufPlays", unfollowed := true, recurses := true, apart := false }
def PixbufPlaysSaid : Prop := pixbufPlaysRow.holds Try.pinned (OpenSpec.ofChange pixbufPlaysSpec)

/-- ITS FALSE NEIGHBOUR: 'it returns false'. Refute it at one input. -/
def pixbufPlaysWrong : ChangeSpec := { name := "pixbufPlays", fn := fun _ => fun
  | [d1, d2] => { results := [.lit (.bool false)], args := [d1, d2] }
  | _ => none }
def PixbufPlaysWrongFalsely : Prop := pixbufPlaysRow.holds Try.pinned (OpenSpec.ofChange pixbufPlaysWrong)

/-- 'vignettelaw03.PixbufTwo': WHATEVER THE INPUT: true; the input reads as it did. -/
def pixbufTwoSpec : ChangeSpec := { name := "pixbufTwo", fn := fun _ => fun
  | [d1, d2, d3, d4] => { results := [.lit (.bool true)], args := [d1, d2, d3, d4] }
  | _ => none }
def pixbufTwoRow : OpenClaim := { program := "ytiamooijflaggaa", sum := "64ae0773ae2520f5322ae04d5ce9c65f7d561b346c821571addc2e24a9eccecc", func := "vignette/vignettelaw03.PixbufTwo", spec := "pixbufTwo", unfollowed := true, recurses := true, apart := false }
def PixbufTwoSaid : Prop := pixbufTwoRow.holds Try.pinned (OpenSpec.ofChange pixbufTwoSpec)

/-- ITS FALSE NEIGHBOUR: 'it returns false'. Refute it at one input. -/
def pixbufTwoWrong : ChangeSpec := { name := "pixbufTwo", fn := fun _ => fun
  | [d1, d2, d3, d4] => { results := [.lit (.bool false)], args := [d1, d2, d3, d4] }
  | _ => none }
def PixbufTwoWrongFalsely : Prop := pixbufTwoRow.holds Try.pinned (OpenSpec.ofChange pixbufTwoWrong)

/-- 'vignettelaw03.PixbufNil': WHATEVER THE INPUT: true; the input reads as it did. -/
def pixbufNilSpec : ChangeSpec := { name := "pixbufNil", fn := fun _ => fun
  | [d] => { results := [.lit (.bool true)], args := [d] }
  | _ => none }
def pixbufNilRow : OpenClaim := { program := "ytiamooijflaggaa", sum := "64ae0773ae2520f5322ae04d5ce9c65f7d561b346c821571addc2e24a9eccecc", func := "vignette/vignettelaw03.PixbufNil", spec := "pixbufNil", unfollowed := true, recurses := true, apart := false }
def PixbufNilSaid : Prop := pixbufNilRow.holds Try.pinned (OpenSpec.ofChange pixbufNilSpec)

/-- ITS FALSE NEIGHBOUR: 'it returns false'. Refute it at one input. -/
def pixbufNilWrong : ChangeSpec := { name := "pixbufNil", fn := fun _ => fun
  | [d] => { results := [.lit (.bool false)], args := [d] }
  | _ => none }
def PixbufNilWrongFalsely : Prop := pixbufNilRow.holds Try.pinned (OpenSpec.ofChange pixbufNilWrong)

/-- 'vignettelaw03.PixbufJust': WHATEVER THE INPUT: true; the input reads as it did. -/
def pixbufJustSpec : ChangeSpec := { name := "pixbufJust", fn := fun _ => fun
  | [d1, d2] => { results := [.lit (.bool true)], args := [d1, d2] }
  | _ => none }
def pixbufJustRow : OpenClaim := { program := "ytiamooijflaggaa", sum := "64ae0773ae2520f5322ae04d5ce9c65f7d561b346c821571addc2e24a9eccecc", func := "vignette/vignettelaw03.PixbufJust", spec := "pixbufJust", unfollowed := true, recurses := true, apart := false }
def PixbufJustSaid : Prop := pixbufJustRow.holds Try.pinned (OpenSpec.ofChange pixbufJustSpec)

/-- ITS FALSE NEIGHBOUR: 'it returns false'. Refute it at one input. -/
def pixbufJustWrong : ChangeSpec := { name := "pixbufJust", fn := fun _ => fun
  | [d1, d2] => { results := [.lit (.bool false)], args := [d1, d2] }
  | _ => none }
def PixbufJustWrongFalsely : Prop := pixbufJustRow.holds Try.pinned (OpenSpec.ofChange pixbufJustWrong)

/-- 'vignettelaw03.PixbufParts': WHATEVER THE INPUT: true; the input reads as it did. -/
def pixbufPartsSpec : ChangeSpec := { name := "pixbufParts", fn := fun _ => fun
  | [d1, d2, d3] => { results := [.lit (.bool true)], args := [d1, d2, d3] }
  | _ => none }
def pixbufPartsRow : OpenClaim := { program := "ytiamooijflaggaa", sum := "64ae0773ae2520f5322ae04d5ce9c65f7d561b346c821571addc2e24a9eccecc", func := "vignette/vignettelaw03.PixbufParts", spec := "pixbufParts", unfollowed := true, recurses := true, apart := false }
def PixbufPartsSaid : Prop := pixbufPartsRow.holds Try.pinned (OpenSpec.ofChange pixbufPartsSpec)

/-- ITS FALSE NEIGHBOUR: 'it returns false'. Refute it at one input. -/
def pixbufPartsWrong : ChangeSpec := { name := "pixbufParts", fn := fun _ => fun
  | [d1, d2, d3] => { results := [.lit (.bool false)], args := [d1, d2, d3] }
  | _ => none }
def PixbufPartsWrongFalsely : Prop := pixbufPartsRow.holds Try.pinned (OpenSpec.ofChange pixbufPartsWrong)

/-- 'vignettelaw03.PixbufBlits': WHATEVER THE INPUT: true; the input reads as it did. -/
def pixbufBlitsSpec : ChangeSpec := { name := "pixbufBlits", fn := fun _ => fun
  | [d1, d2, d3, d4, d5] => { results := [.lit (.bool true)], args := [d1, d2, d3, d4, d5] }
  | _ => none }
def pixbufBlitsRow : OpenClaim := { program := "ytiamooijflaggaa", sum := "64ae0773ae2520f5322ae04d5ce9c65f7d561b346c821571addc2e24a9eccecc", func := "vignette/vignettelaw03.PixbufBlits", spec := "pixbufBlits", unfollowed := true, recurses := true, apart := false }
def PixbufBlitsSaid : Prop := pixbufBlitsRow.holds Try.pinned (OpenSpec.ofChange pixbufBlitsSpec)

/-- ITS FALSE NEIGHBOUR: 'it returns false'. Refute it at one input. -/
def pixbufBlitsWrong : ChangeSpec := { name := "pixbufBlits", fn := fun _ => fun
  | [d1, d2, d3, d4, d5] => { results := [.lit (.bool false)], args := [d1, d2, d3, d4, d5] }
  | _ => none }
def PixbufBlitsWrongFalsely : Prop := pixbufBlitsRow.holds Try.pinned (OpenSpec.ofChange pixbufBlitsWrong)

/- THE SECOND FORM. 'bulk': how many values and letters a reading holds, each counted each time it is reached (what is shared counts as often as it is met; a slice's spare places count too). A statement '..UptoSaid' is the law's where the arguments, and the package variables that the reading takes, are together of bulk at most 1048576: NARROWER than '..Said'. Prove '..Said' where nothing that the law and all that it calls make is longer than what came in: it says more and counts as full. Else prove '..UptoSaid'. A law counts once. -/
mutual
def uptoBulk {H : Type} : DataW H → Nat
  | .lit (.string bytes) => bytes.length + 1
  | .lit _ => 1
  | .nil => 1
  | .ptr d => uptoBulk d + 1
  | .slice elems spare => uptoBulkAll elems + uptoBulkAll spare + 1
  | .agg parts => uptoBulkAll parts + 1
  | .iface _ d => uptoBulk d + 1
  | .map entries => uptoBulkEntries entries + 1
  | .held _ => 1
def uptoBulkAll {H : Type} : List (DataW H) → Nat
  | [] => 0
  | d :: r => uptoBulk d + uptoBulkAll r
def uptoBulkEntries {H : Type} : List (Lit × DataW H) → Nat
  | [] => 0
  | x :: r => uptoBulkEntry x + uptoBulkEntries r
def uptoBulkEntry {H : Type} : Lit × DataW H → Nat
  | (.string bytes, d) => bytes.length + uptoBulk d + 1
  | (_, d) => uptoBulk d + 1
 end
def uptoSmall : (H : Type) → List (DataW H) → Bool := fun _ ds => decide (uptoBulkAll ds ≤ 1048576)
def OpenSpec.upto (s : _root_.Go.ChangeSpec) : _root_.Go.OpenSpec := { _root_.Go.OpenSpec.ofChange s with cond := some uptoSmall }

/-- 'vignettelaw02.RegionSets', WHERE WHAT IT READS IS OF BULK AT MOST 1048576: true; the input reads as it did. -/
def regionSetsUptoRow : OpenClaim := { program := "ytiamooijflaggaa", sum := "64ae0773ae2520f5322ae04d5ce9c65f7d561b346c821571addc2e24a9eccecc", func := "vignette/vignettelaw02.RegionSets", spec := "regionSets", unfollowed := true, recurses := true, apart := false, narrowed := true }
def RegionSetsUptoSaid : Prop := regionSetsUptoRow.holds Try.pinned (OpenSpec.upto regionSetsSpec)

/-- 'vignettelaw02.RegionLooks', WHERE WHAT IT READS IS OF BULK AT MOST 1048576: true; the input reads as it did. -/
def regionLooksUptoRow : OpenClaim := { program := "ytiamooijflaggaa", sum := "64ae0773ae2520f5322ae04d5ce9c65f7d561b346c821571addc2e24a9eccecc", func := "vignette/vignettelaw02.RegionLooks", spec := "regionLooks", unfollowed := true, recurses := true, apart := false, narrowed := true }
def RegionLooksUptoSaid : Prop := regionLooksUptoRow.holds Try.pinned (OpenSpec.upto regionLooksSpec)

/-- 'vignettelaw03.PixbufPlays', WHERE WHAT IT READS IS OF BULK AT MOST 1048576: true; the input reads as it did. -/
def pixbufPlaysUptoRow : OpenClaim := { program := "ytiamooijflaggaa", sum := "64ae0773ae2520f5322ae04d5ce9c65f7d561b346c821571addc2e24a9eccecc", func := "vignette/vignettelaw03.PixbufPlays", spec := "pixbufPlays", unfollowed := true, recurses := true, apart := false, narrowed := true }
def PixbufPlaysUptoSaid : Prop := pixbufPlaysUptoRow.holds Try.pinned (OpenSpec.upto pixbufPlaysSpec)

/-- 'vignettelaw03.PixbufTwo', WHERE WHAT IT READS IS OF BULK AT MOST 1048576: true; the input reads as it did. -/
def pixbufTwoUptoRow : OpenClaim := { program := "ytiamooijflaggaa", sum := "64ae0773ae2520f5322ae04d5ce9c65f7d561b346c821571addc2e24a9eccecc", func := "vignette/vignettelaw03.PixbufTwo", spec := "pixbufTwo", unfollowed := true, recurses := true, apart := false, narrowed := true }
def PixbufTwoUptoSaid : Prop := pixbufTwoUptoRow.holds Try.pinned (OpenSpec.upto pixbufTwoSpec)

/-- 'vignettelaw03.PixbufNil', WHERE WHAT IT READS IS OF BULK AT MOST 1048576: true; the input reads as it did. -/
def pixbufNilUptoRow : OpenClaim := { program := "ytiamooijflaggaa", sum := "64ae0773ae2520f5322ae04d5ce9c65f7d561b346c821571addc2e24a9eccecc", func := "vignette/vignettelaw03.PixbufNil", spec := "pixbufNil", unfollowed := true, recurses := true, apart := false, narrowed := true }
def PixbufNilUptoSaid : Prop := pixbufNilUptoRow.holds Try.pinned (OpenSpec.upto pixbufNilSpec)

/-- 'vignettelaw03.PixbufJust', WHERE WHAT IT READS IS OF BULK AT MOST 1048576: true; the input reads as it did. -/
def pixbufJustUptoRow : OpenClaim := { program := "ytiamooijflaggaa", sum := "64ae0773ae2520f5322ae04d5ce9c65f7d561b346c821571addc2e24a9eccecc", func := "vignette/vignettelaw03.PixbufJust", spec := "pixbufJust", unfollowed := true, recurses := true, apart := false, narrowed := true }
def PixbufJustUptoSaid : Prop := pixbufJustUptoRow.holds Try.pinned (OpenSpec.upto pixbufJustSpec)

/-- 'vignettelaw03.PixbufParts', WHERE WHAT IT READS IS OF BULK AT MOST 1048576: true; the input reads as it did. -/
def pixbufPartsUptoRow : OpenClaim := { program := "ytiamooijflaggaa", sum := "64ae0773ae2520f5322ae04d5ce9c65f7d561b346c821571addc2e24a9eccecc", func := "vignette/vignettelaw03.PixbufParts", spec := "pixbufParts", unfollowed := true, recurses := true, apart := false, narrowed := true }
def PixbufPartsUptoSaid : Prop := pixbufPartsUptoRow.holds Try.pinned (OpenSpec.upto pixbufPartsSpec)

/-- 'vignettelaw03.PixbufBlits', WHERE WHAT IT READS IS OF BULK AT MOST 1048576: true; the input reads as it did. -/
def pixbufBlitsUptoRow : OpenClaim := { program := "ytiamooijflaggaa", sum := "64ae0773ae2520f5322ae04d5ce9c65f7d561b346c821571addc2e24a9eccecc", func := "vignette/vignettelaw03.PixbufBlits", spec := "pixbufBlits", unfollowed := true, recurses := true, apart := false, narrowed := true }
def PixbufBlitsUptoSaid : Prop := pixbufBlitsUptoRow.holds Try.pinned (OpenSpec.upto pixbufBlitsSpec)

end Rows
end Go.Proofs.Ytiamooijflaggaa
