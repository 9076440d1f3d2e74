/-
  No cell of these rows narrows 'for every input' (looked for: loops, veiled, ifaces, maps, wideKeys, modest, calm, conditions, laid).
  DERIVED. THE GIVEN ROWS OF THIS SEAT. 9 by the template 'for every input the law returns true; each argument reads behind the call as it read before'; 0 by the template 'total and deterministic' (their statements: YtedakhgaghfogaaGreatTotals.lean).
  GIVEN WITH THE SEED: the statements are not yours to turn. If you find one false, say at which input.
  Laid BY PROGRAM, IN A SANDBOX (cutbox-rows.mjs): the forced cells as the released guide's own fill.sh prints them over the translation b947ddce74ef15f2… (all of the seat's roots in one cut). By AI agents, Wed Nov 11 2026. No macro, syntax, notation, axiom, sorry.
-/
import Derived.Test.YtedakhgaghfogaaGreatChecked
import GoSem.Claim
import GoSem.ClaimJoined
import GoSem.ClaimMapViews
import Derived.JoinedTies
import Derived.KernelRfl
namespace Go.Proofs.YtedakhgaghfogaaGreat
/- THE CELL 'sum', in the pinned program and in every row, IS THE sha256 OF THE DUMP (.gsa) THAT YtedakhgaghfogaaGreatProg.lean LOADS. Nothing in Lean hashes anything: it is a label: what it is worth is what the hold of that sum in a sandbox is worth. -/
noncomputable def Tryz.pinned : Pinned := { name := "ytedakhgaghfogaagreat", sum := "b947ddce74ef15f2de8748a62a77e5159402e524c563e0ea244c2d256a851d81", checked := Tryz.checked }
namespace Rows
def none {H : Type} : Left H := { results := [], args := [] }

/-- 'vignettelaw14.UpdateMakes': WHATEVER THE INPUT: true; the input reads as it did. -/
def updateMakesSpec : ChangeSpec := { name := "updateMakes", fn := fun _ => fun
  | [d1, d2, d3] => { results := [.lit (.bool true)], args := [d1, d2, d3] }
  | _ => none }
def updateMakesRow : OpenClaim := { program := "ytedakhgaghfogaagreat", sum := "b947ddce74ef15f2de8748a62a77e5159402e524c563e0ea244c2d256a851d81", func := "vignette/vignettelaw14.UpdateMakes", spec := "updateMakes", unfollowed := true, recurses := true, plainKeys := false, apart := false }
def UpdateMakesSaid : Prop := updateMakesRow.holds Tryz.pinned (OpenSpec.ofChange updateMakesSpec)

/-- ITS FALSE NEIGHBOUR: 'it returns false'. Refute it at one input. -/
def updateMakesWrong : ChangeSpec := { name := "updateMakes", fn := fun _ => fun
  | [d1, d2, d3] => { results := [.lit (.bool false)], args := [d1, d2, d3] }
  | _ => none }
def UpdateMakesWrongFalsely : Prop := updateMakesRow.holds Tryz.pinned (OpenSpec.ofChange updateMakesWrong)

/-- 'vignettelaw14.UpdateApplies': WHATEVER THE INPUT: true; the input reads as it did. -/
def updateAppliesSpec : ChangeSpec := { name := "updateApplies", fn := fun _ => fun
  | [d1, d2] => { results := [.lit (.bool true)], args := [d1, d2] }
  | _ => none }
def updateAppliesRow : OpenClaim := { program := "ytedakhgaghfogaagreat", sum := "b947ddce74ef15f2de8748a62a77e5159402e524c563e0ea244c2d256a851d81", func := "vignette/vignettelaw14.UpdateApplies", spec := "updateApplies", unfollowed := true, recurses := true, plainKeys := false, apart := false }
def UpdateAppliesSaid : Prop := updateAppliesRow.holds Tryz.pinned (OpenSpec.ofChange updateAppliesSpec)

/-- ITS FALSE NEIGHBOUR: 'it returns false'. Refute it at one input. -/
def updateAppliesWrong : ChangeSpec := { name := "updateApplies", fn := fun _ => fun
  | [d1, d2] => { results := [.lit (.bool false)], args := [d1, d2] }
  | _ => none }
def UpdateAppliesWrongFalsely : Prop := updateAppliesRow.holds Tryz.pinned (OpenSpec.ofChange updateAppliesWrong)

/-- 'vignettelaw14.UpdateBack': WHATEVER THE INPUT: true; the input reads as it did. -/
def updateBackSpec : ChangeSpec := { name := "updateBack", fn := fun _ => fun
  | [d1, d2, d3] => { results := [.lit (.bool true)], args := [d1, d2, d3] }
  | _ => none }
def updateBackRow : OpenClaim := { program := "ytedakhgaghfogaagreat", sum := "b947ddce74ef15f2de8748a62a77e5159402e524c563e0ea244c2d256a851d81", func := "vignette/vignettelaw14.UpdateBack", spec := "updateBack", unfollowed := true, recurses := true, plainKeys := false, apart := false }
def UpdateBackSaid : Prop := updateBackRow.holds Tryz.pinned (OpenSpec.ofChange updateBackSpec)

/-- ITS FALSE NEIGHBOUR: 'it returns false'. Refute it at one input. -/
def updateBackWrong : ChangeSpec := { name := "updateBack", fn := fun _ => fun
  | [d1, d2, d3] => { results := [.lit (.bool false)], args := [d1, d2, d3] }
  | _ => none }
def UpdateBackWrongFalsely : Prop := updateBackRow.holds Tryz.pinned (OpenSpec.ofChange updateBackWrong)

/-- 'vignettelaw14.UpdateCopies': WHATEVER THE INPUT: true; the input reads as it did. -/
def updateCopiesSpec : ChangeSpec := { name := "updateCopies", fn := fun _ => fun
  | [d1, d2] => { results := [.lit (.bool true)], args := [d1, d2] }
  | _ => none }
def updateCopiesRow : OpenClaim := { program := "ytedakhgaghfogaagreat", sum := "b947ddce74ef15f2de8748a62a77e5159402e524c563e0ea244c2d256a851d81", func := "vignette/vignettelaw14.UpdateCopies", spec := "updateCopies", unfollowed := true, recurses := true, plainKeys := false, apart := false }
def UpdateCopiesSaid : Prop := updateCopiesRow.holds Tryz.pinned (OpenSpec.ofChange updateCopiesSpec)

/-- ITS FALSE NEIGHBOUR: 'it returns false'. Refute it at one input. -/
def updateCopiesWrong : ChangeSpec := { name := "updateCopies", fn := fun _ => fun
  | [d1, d2] => { results := [.lit (.bool false)], args := [d1, d2] }
  | _ => none }
def UpdateCopiesWrongFalsely : Prop := updateCopiesRow.holds Tryz.pinned (OpenSpec.ofChange updateCopiesWrong)

/-- 'vignettelaw14.UpdateAny': WHATEVER THE INPUT: true; the input reads as it did. -/
def updateAnySpec : ChangeSpec := { name := "updateAny", fn := fun _ => fun
  | [d1, d2, d3] => { results := [.lit (.bool true)], args := [d1, d2, d3] }
  | _ => none }
def updateAnyRow : OpenClaim := { program := "ytedakhgaghfogaagreat", sum := "b947ddce74ef15f2de8748a62a77e5159402e524c563e0ea244c2d256a851d81", func := "vignette/vignettelaw14.UpdateAny", spec := "updateAny", unfollowed := true, recurses := true, plainKeys := false, apart := false }
def UpdateAnySaid : Prop := updateAnyRow.holds Tryz.pinned (OpenSpec.ofChange updateAnySpec)

/-- ITS FALSE NEIGHBOUR: 'it returns false'. Refute it at one input. -/
def updateAnyWrong : ChangeSpec := { name := "updateAny", fn := fun _ => fun
  | [d1, d2, d3] => { results := [.lit (.bool false)], args := [d1, d2, d3] }
  | _ => none }
def UpdateAnyWrongFalsely : Prop := updateAnyRow.holds Tryz.pinned (OpenSpec.ofChange updateAnyWrong)

/-- 'vignettelaw14.UpdateKnown': WHATEVER THE INPUT: true; the input reads as it did. -/
def updateKnownSpec : ChangeSpec := { name := "updateKnown", fn := fun _ => fun
  | [] => { results := [.lit (.bool true)], args := [] }
  | _ => none }
def updateKnownRow : OpenClaim := { program := "ytedakhgaghfogaagreat", sum := "b947ddce74ef15f2de8748a62a77e5159402e524c563e0ea244c2d256a851d81", func := "vignette/vignettelaw14.UpdateKnown", spec := "updateKnown", unfollowed := true, recurses := true, plainKeys := false, apart := false }
def UpdateKnownSaid : Prop := updateKnownRow.holds Tryz.pinned (OpenSpec.ofChange updateKnownSpec)

/-- ITS FALSE NEIGHBOUR: 'it returns false'. Refute it at one input. -/
def updateKnownWrong : ChangeSpec := { name := "updateKnown", fn := fun _ => fun
  | [] => { results := [.lit (.bool false)], args := [] }
  | _ => none }
def UpdateKnownWrongFalsely : Prop := updateKnownRow.holds Tryz.pinned (OpenSpec.ofChange updateKnownWrong)

/-- 'vignettelaw14.UpdateOrder': WHATEVER THE INPUT: true; the input reads as it did. -/
def updateOrderSpec : ChangeSpec := { name := "updateOrder", fn := fun _ => fun
  | [d1, d2, d3, d4] => { results := [.lit (.bool true)], args := [d1, d2, d3, d4] }
  | _ => none }
def updateOrderRow : OpenClaim := { program := "ytedakhgaghfogaagreat", sum := "b947ddce74ef15f2de8748a62a77e5159402e524c563e0ea244c2d256a851d81", func := "vignette/vignettelaw14.UpdateOrder", spec := "updateOrder", unfollowed := true, recurses := true, plainKeys := false, apart := false }
def UpdateOrderSaid : Prop := updateOrderRow.holds Tryz.pinned (OpenSpec.ofChange updateOrderSpec)

/-- ITS FALSE NEIGHBOUR: 'it returns false'. Refute it at one input. -/
def updateOrderWrong : ChangeSpec := { name := "updateOrder", fn := fun _ => fun
  | [d1, d2, d3, d4] => { results := [.lit (.bool false)], args := [d1, d2, d3, d4] }
  | _ => none }
def UpdateOrderWrongFalsely : Prop := updateOrderRow.holds Tryz.pinned (OpenSpec.ofChange updateOrderWrong)

/-- 'vignettelaw13.CodecDecodes': WHATEVER THE INPUT: true; the input reads as it did. -/
def codecDecodesSpec : ChangeSpec := { name := "codecDecodes", fn := fun _ => fun
  | [d1, d2, d3, d4] => { results := [.lit (.bool true)], args := [d1, d2, d3, d4] }
  | _ => none }
def codecDecodesRow : OpenClaim := { program := "ytedakhgaghfogaagreat", sum := "b947ddce74ef15f2de8748a62a77e5159402e524c563e0ea244c2d256a851d81", func := "vignette/vignettelaw13.CodecDecodes", spec := "codecDecodes", unfollowed := true, recurses := true, plainKeys := false, apart := false }
def CodecDecodesSaid : Prop := codecDecodesRow.holds Tryz.pinned (OpenSpec.ofChange codecDecodesSpec)

/-- ITS FALSE NEIGHBOUR: 'it returns false'. Refute it at one input. -/
def codecDecodesWrong : ChangeSpec := { name := "codecDecodes", fn := fun _ => fun
  | [d1, d2, d3, d4] => { results := [.lit (.bool false)], args := [d1, d2, d3, d4] }
  | _ => none }
def CodecDecodesWrongFalsely : Prop := codecDecodesRow.holds Tryz.pinned (OpenSpec.ofChange codecDecodesWrong)

/-- 'vignettelaw13.CodecKnown': WHATEVER THE INPUT: true; the input reads as it did. -/
def codecKnownSpec : ChangeSpec := { name := "codecKnown", fn := fun _ => fun
  | [] => { results := [.lit (.bool true)], args := [] }
  | _ => none }
def codecKnownRow : OpenClaim := { program := "ytedakhgaghfogaagreat", sum := "b947ddce74ef15f2de8748a62a77e5159402e524c563e0ea244c2d256a851d81", func := "vignette/vignettelaw13.CodecKnown", spec := "codecKnown", unfollowed := true, recurses := true, plainKeys := false, apart := false }
def CodecKnownSaid : Prop := codecKnownRow.holds Tryz.pinned (OpenSpec.ofChange codecKnownSpec)

/-- ITS FALSE NEIGHBOUR: 'it returns false'. Refute it at one input. -/
def codecKnownWrong : ChangeSpec := { name := "codecKnown", fn := fun _ => fun
  | [] => { results := [.lit (.bool false)], args := [] }
  | _ => none }
def CodecKnownWrongFalsely : Prop := codecKnownRow.holds Tryz.pinned (OpenSpec.ofChange codecKnownWrong)

/- THE SECOND FORM. 'bulk': how many values and letters a reading holds, each counted each time it is reached (what is shared counts as often as it is met; a slice's spare places count too). A statement '..UptoSaid' is the law's where the arguments, and the package variables that the reading takes, are together of bulk at most 1048576: NARROWER than '..Said'. Prove '..Said' where nothing that the law and all that it calls make is longer than what came in: it says more and counts as full. Else prove '..UptoSaid'. A law counts once. -/
mutual
def uptoBulk {H : Type} : DataW H → Nat
  | .lit (.string bytes) => bytes.length + 1
  | .lit _ => 1
  | .nil => 1
  | .ptr d => uptoBulk d + 1
  | .slice elems spare => uptoBulkAll elems + uptoBulkAll spare + 1
  | .agg parts => uptoBulkAll parts + 1
  | .iface _ d => uptoBulk d + 1
  | .map entries => uptoBulkEntries entries + 1
  | .held _ => 1
def uptoBulkAll {H : Type} : List (DataW H) → Nat
  | [] => 0
  | d :: r => uptoBulk d + uptoBulkAll r
def uptoBulkEntries {H : Type} : List (Lit × DataW H) → Nat
  | [] => 0
  | x :: r => uptoBulkEntry x + uptoBulkEntries r
def uptoBulkEntry {H : Type} : Lit × DataW H → Nat
  | (.string bytes, d) => bytes.length + uptoBulk d + 1
  | (_, d) => uptoBulk d + 1
 end
def uptoSmall : (H : Type) → List (DataW H) → Bool := fun _ ds => decide (uptoBulkAll ds ≤ 1048576)
def OpenSpec.upto (s : _root_.Go.ChangeSpec) : _root_.Go.OpenSpec := { _root_.Go.OpenSpec.ofChange s with cond := some uptoSmall }

/-- 'vignettelaw14.UpdateMakes', WHERE WHAT IT READS IS OF BULK AT MOST 1048576: true; the input reads as it did. -/
def updateMakesUptoRow : OpenClaim := { program := "ytedakhgaghfogaagreat", sum := "b947ddce74ef15f2de8748a62a77e5159402e524c563e0ea244c2d256a851d81", func := "vignette/vignettelaw14.UpdateMakes", spec := "updateMakes", unfollowed := true, recurses := true, plainKeys := false, apart := false, narrowed := true }
def UpdateMakesUptoSaid : Prop := updateMakesUptoRow.holds Tryz.pinned (OpenSpec.upto updateMakesSpec)

/-- 'vignettelaw14.UpdateApplies', WHERE WHAT IT READS IS OF BULK AT MOST 1048576: true; the input reads as it did. -/
def updateAppliesUptoRow : OpenClaim := { program := "ytedakhgaghfogaagreat", sum := "b947ddce74ef15f2de8748a62a77e5159402e524c563e0ea244c2d256a851d81", func := "vignette/vignettelaw14.UpdateApplies", spec := "updateApplies", unfollowed := true, recurses := true, plainKeys := false, apart := false, narrowed := true }
def UpdateAppliesUptoSaid : Prop := updateAppliesUptoRow.holds Tryz.pinned (OpenSpec.upto updateAppliesSpec)

/-- 'vignettelaw14.UpdateBack', WHERE WHAT IT READS IS OF BULK AT MOST 1048576: true; the input reads as it did. -/
def updateBackUptoRow : OpenClaim := { program := "ytedakhgaghfogaagreat", sum := "b947ddce74ef15f2de8748a62a77e5159402e524c563e0ea244c2d256a851d81", func := "vignette/vignettelaw14.UpdateBack", spec := "updateBack", unfollowed := true, recurses := true, plainKeys := false, apart := false, narrowed := true }
def UpdateBackUptoSaid : Prop := updateBackUptoRow.holds Tryz.pinned (OpenSpec.upto updateBackSpec)

/-- 'vignettelaw14.UpdateCopies', WHERE WHAT IT READS IS OF BULK AT MOST 1048576: true; the input reads as it did. -/
def updateCopiesUptoRow : OpenClaim := { program := "ytedakhgaghfogaagreat", sum := "b947ddce74ef15f2de8748a62a77e5159402e524c563e0ea244c2d256a851d81", func := "vignette/vignettelaw14.UpdateCopies", spec := "updateCopies", unfollowed := true, recurses := true, plainKeys := false, apart := false, narrowed := true }
def UpdateCopiesUptoSaid : Prop := updateCopiesUptoRow.holds Tryz.pinned (OpenSpec.upto updateCopiesSpec)

/-- 'vignettelaw14.UpdateAny', WHERE WHAT IT READS IS OF BULK AT MOST 1048576: true; the input reads as it did. -/
def updateAnyUptoRow : OpenClaim := { program := "ytedakhgaghfogaagreat", sum := "b947ddce74ef15f2de8748a62a77e5159402e524c563e0ea244c2d256a851d81", func := "vignette/vignettelaw14.UpdateAny", spec := "updateAny", unfollowed := true, recurses := true, plainKeys := false, apart := false, narrowed := true }
def UpdateAnyUptoSaid : Prop := updateAnyUptoRow.holds Tryz.pinned (OpenSpec.upto updateAnySpec)

/-- 'vignettelaw14.UpdateKnown', WHERE WHAT IT READS IS OF BULK AT MOST 1048576: true; the input reads as it did. -/
def updateKnownUptoRow : OpenClaim := { program := "ytedakhgaghfogaagreat", sum := "b947ddce74ef15f2de8748a62a77e5159402e524c563e0ea244c2d256a851d81", func := "vignette/vignettelaw14.UpdateKnown", spec := "updateKnown", unfollowed := true, recurses := true, plainKeys := false, apart := false, narrowed := true }
def UpdateKnownUptoSaid : Prop := updateKnownUptoRow.holds Tryz.pinned (OpenSpec.upto updateKnownSpec)

/-- 'vignettelaw14.UpdateOrder', WHERE WHAT IT READS IS OF BULK AT MOST 1048576: true; the input reads as it did. -/
def updateOrderUptoRow : OpenClaim := { program := "ytedakhgaghfogaagreat", sum := "b947ddce74ef15f2de8748a62a77e5159402e524c563e0ea244c2d256a851d81", func := "vignette/vignettelaw14.UpdateOrder", spec := "updateOrder", unfollowed := true, recurses := true, plainKeys := false, apart := false, narrowed := true }
def UpdateOrderUptoSaid : Prop := updateOrderUptoRow.holds Tryz.pinned (OpenSpec.upto updateOrderSpec)

/-- 'vignettelaw13.CodecDecodes', WHERE WHAT IT READS IS OF BULK AT MOST 1048576: true; the input reads as it did. -/
def codecDecodesUptoRow : OpenClaim := { program := "ytedakhgaghfogaagreat", sum := "b947ddce74ef15f2de8748a62a77e5159402e524c563e0ea244c2d256a851d81", func := "vignette/vignettelaw13.CodecDecodes", spec := "codecDecodes", unfollowed := true, recurses := true, plainKeys := false, apart := false, narrowed := true }
def CodecDecodesUptoSaid : Prop := codecDecodesUptoRow.holds Tryz.pinned (OpenSpec.upto codecDecodesSpec)

/-- 'vignettelaw13.CodecKnown', WHERE WHAT IT READS IS OF BULK AT MOST 1048576: true; the input reads as it did. -/
def codecKnownUptoRow : OpenClaim := { program := "ytedakhgaghfogaagreat", sum := "b947ddce74ef15f2de8748a62a77e5159402e524c563e0ea244c2d256a851d81", func := "vignette/vignettelaw13.CodecKnown", spec := "codecKnown", unfollowed := true, recurses := true, plainKeys := false, apart := false, narrowed := true }
def CodecKnownUptoSaid : Prop := codecKnownUptoRow.holds Tryz.pinned (OpenSpec.upto codecKnownSpec)

end Rows
end Go.Proofs.YtedakhgaghfogaaGreat
