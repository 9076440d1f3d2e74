/-
  No cell of these rows narrows 'for every input' (looked for: loops, veiled, ifaces, maps, wideKeys, modest, calm, conditions, laid).
  DERIVED. THE GIVEN ROWS OF THIS SEAT. 7 by the template 'for every input the law returns true; each argument reads behind the call as it read before'; 0 by the template 'total and deterministic' (their statements: YtoladolgmeanhaaGreatTotals.lean).
  GIVEN WITH THE SEED: the statements are not yours to turn. If you find one false, say at which input.
  Laid BY PROGRAM, IN A SANDBOX (cutbox-rows.mjs): the forced cells as the released guide's own fill.sh prints them over the translation 49d047d9e6d2eff3… (all of the seat's roots in one cut). By AI agents, Wed Nov 11 2026. No macro, syntax, notation, axiom, sorry.
-/
import Derived.Test.YtoladolgmeanhaaGreatChecked
import GoSem.Claim
import GoSem.ClaimJoined
import GoSem.ClaimMapViews
import Derived.JoinedTies
import Derived.KernelRfl
namespace Go.Proofs.YtoladolgmeanhaaGreat
/- THE CELL 'sum', in the pinned program and in every row, IS THE sha256 OF THE DUMP (.gsa) THAT YtoladolgmeanhaaGreatProg.lean LOADS. Nothing in Lean hashes anything: it is a label: what it is worth is what the hold of that sum in a sandbox is worth. -/
noncomputable def Tryz.pinned : Pinned := { name := "ytoladolgmeanhaagreat", sum := "49d047d9e6d2eff371b4137a4102e96fd9c645e9e9ade163ac119602cac7ff22", checked := Tryz.checked }
namespace Rows
def none {H : Type} : Left H := { results := [], args := [] }

/-- 'vignettelaw13.CodecEncodes': WHATEVER THE INPUT: true; the input reads as it did. -/
def codecEncodesSpec : ChangeSpec := { name := "codecEncodes", fn := fun _ => fun
  | [d] => { results := [.lit (.bool true)], args := [d] }
  | _ => none }
def codecEncodesRow : OpenClaim := { program := "ytoladolgmeanhaagreat", sum := "49d047d9e6d2eff371b4137a4102e96fd9c645e9e9ade163ac119602cac7ff22", func := "vignette/vignettelaw13.CodecEncodes", spec := "codecEncodes", unfollowed := true, recurses := true, plainKeys := false, apart := false }
def CodecEncodesSaid : Prop := codecEncodesRow.holds Tryz.pinned (OpenSpec.ofChange codecEncodesSpec)

/-- ITS FALSE NEIGHBOUR: 'it returns false'. Refute it at one input. -/
def codecEncodesWrong : ChangeSpec := { name := "codecEncodes", fn := fun _ => fun
  | [d] => { results := [.lit (.bool false)], args := [d] }
  | _ => none }
def CodecEncodesWrongFalsely : Prop := codecEncodesRow.holds Tryz.pinned (OpenSpec.ofChange codecEncodesWrong)

/-- 'vignettelaw13.CodecDecodes': WHATEVER THE INPUT: true; the input reads as it did. -/
def codecDecodesSpec : ChangeSpec := { name := "codecDecodes", fn := fun _ => fun
  | [d1, d2, d3, d4] => { results := [.lit (.bool true)], args := [d1, d2, d3, d4] }
  | _ => none }
def codecDecodesRow : OpenClaim := { program := "ytoladolgmeanhaagreat", sum := "49d047d9e6d2eff371b4137a4102e96fd9c645e9e9ade163ac119602cac7ff22", func := "vignette/vignettelaw13.CodecDecodes", spec := "codecDecodes", unfollowed := true, recurses := true, plainKeys := false, apart := false }
def CodecDecodesSaid : Prop := codecDecodesRow.holds Tryz.pinned (OpenSpec.ofChange codecDecodesSpec)

/-- ITS FALSE NEIGHBOUR: 'it returns false'. Refute it at one input. -/
def codecDecodesWrong : ChangeSpec := { name := "codecDecodes", fn := fun _ => fun
  | [d1, d2, d3, d4] => { results := [.lit (.bool false)], args := [d1, d2, d3, d4] }
  | _ => none }
def CodecDecodesWrongFalsely : Prop := codecDecodesRow.holds Tryz.pinned (OpenSpec.ofChange codecDecodesWrong)

/-- 'vignettelaw13.CodecBack': WHATEVER THE INPUT: true; the input reads as it did. -/
def codecBackSpec : ChangeSpec := { name := "codecBack", fn := fun _ => fun
  | [d1, d2, d3] => { results := [.lit (.bool true)], args := [d1, d2, d3] }
  | _ => none }
def codecBackRow : OpenClaim := { program := "ytoladolgmeanhaagreat", sum := "49d047d9e6d2eff371b4137a4102e96fd9c645e9e9ade163ac119602cac7ff22", func := "vignette/vignettelaw13.CodecBack", spec := "codecBack", unfollowed := true, recurses := true, plainKeys := false, apart := false }
def CodecBackSaid : Prop := codecBackRow.holds Tryz.pinned (OpenSpec.ofChange codecBackSpec)

/-- ITS FALSE NEIGHBOUR: 'it returns false'. Refute it at one input. -/
def codecBackWrong : ChangeSpec := { name := "codecBack", fn := fun _ => fun
  | [d1, d2, d3] => { results := [.lit (.bool false)], args := [d1, d2, d3] }
  | _ => none }
def CodecBackWrongFalsely : Prop := codecBackRow.holds Tryz.pinned (OpenSpec.ofChange codecBackWrong)

/-- 'vignettelaw13.CodecAny': WHATEVER THE INPUT: true; the input reads as it did. -/
def codecAnySpec : ChangeSpec := { name := "codecAny", fn := fun _ => fun
  | [d1, d2, d3, d4] => { results := [.lit (.bool true)], args := [d1, d2, d3, d4] }
  | _ => none }
def codecAnyRow : OpenClaim := { program := "ytoladolgmeanhaagreat", sum := "49d047d9e6d2eff371b4137a4102e96fd9c645e9e9ade163ac119602cac7ff22", func := "vignette/vignettelaw13.CodecAny", spec := "codecAny", unfollowed := true, recurses := true, plainKeys := false, apart := false }
def CodecAnySaid : Prop := codecAnyRow.holds Tryz.pinned (OpenSpec.ofChange codecAnySpec)

/-- ITS FALSE NEIGHBOUR: 'it returns false'. Refute it at one input. -/
def codecAnyWrong : ChangeSpec := { name := "codecAny", fn := fun _ => fun
  | [d1, d2, d3, d4] => { results := [.lit (.bool false)], args := [d1, d2, d3, d4] }
  | _ => none }
def CodecAnyWrongFalsely : Prop := codecAnyRow.holds Tryz.pinned (OpenSpec.ofChange codecAnyWrong)

/-- 'vignettelaw13.CodecPlain': WHATEVER THE INPUT: true; the input reads as it did. -/
def codecPlainSpec : ChangeSpec := { name := "codecPlain", fn := fun _ => fun
  | [d] => { results := [.lit (.bool true)], args := [d] }
  | _ => none }
def codecPlainRow : OpenClaim := { program := "ytoladolgmeanhaagreat", sum := "49d047d9e6d2eff371b4137a4102e96fd9c645e9e9ade163ac119602cac7ff22", func := "vignette/vignettelaw13.CodecPlain", spec := "codecPlain", unfollowed := true, recurses := true, plainKeys := false, apart := false }
def CodecPlainSaid : Prop := codecPlainRow.holds Tryz.pinned (OpenSpec.ofChange codecPlainSpec)

/-- ITS FALSE NEIGHBOUR: 'it returns false'. Refute it at one input. -/
def codecPlainWrong : ChangeSpec := { name := "codecPlain", fn := fun _ => fun
  | [d] => { results := [.lit (.bool false)], args := [d] }
  | _ => none }
def CodecPlainWrongFalsely : Prop := codecPlainRow.holds Tryz.pinned (OpenSpec.ofChange codecPlainWrong)

/-- 'vignettelaw13.CodecKnown': WHATEVER THE INPUT: true; the input reads as it did. -/
def codecKnownSpec : ChangeSpec := { name := "codecKnown", fn := fun _ => fun
  | [] => { results := [.lit (.bool true)], args := [] }
  | _ => none }
def codecKnownRow : OpenClaim := { program := "ytoladolgmeanhaagreat", sum := "49d047d9e6d2eff371b4137a4102e96fd9c645e9e9ade163ac119602cac7ff22", func := "vignette/vignettelaw13.CodecKnown", spec := "codecKnown", unfollowed := true, recurses := true, plainKeys := false, apart := false }
def CodecKnownSaid : Prop := codecKnownRow.holds Tryz.pinned (OpenSpec.ofChange codecKnownSpec)

/-- ITS FALSE NEIGHBOUR: 'it returns false'. Refute it at one input. -/
def codecKnownWrong : ChangeSpec := { name := "codecKnown", fn := fun _ => fun
  | [] => { results := [.lit (.bool false)], args := [] }
  | _ => none }
def CodecKnownWrongFalsely : Prop := codecKnownRow.holds Tryz.pinned (OpenSpec.ofChange codecKnownWrong)

/-- 'vignettelaw13.CodecRows': WHATEVER THE INPUT: true; the input reads as it did. -/
def codecRowsSpec : ChangeSpec := { name := "codecRows", fn := fun _ => fun
  | [d] => { results := [.lit (.bool true)], args := [d] }
  | _ => none }
def codecRowsRow : OpenClaim := { program := "ytoladolgmeanhaagreat", sum := "49d047d9e6d2eff371b4137a4102e96fd9c645e9e9ade163ac119602cac7ff22", func := "vignette/vignettelaw13.CodecRows", spec := "codecRows", unfollowed := true, recurses := true, plainKeys := false, apart := false }
def CodecRowsSaid : Prop := codecRowsRow.holds Tryz.pinned (OpenSpec.ofChange codecRowsSpec)

/-- ITS FALSE NEIGHBOUR: 'it returns false'. Refute it at one input. -/
def codecRowsWrong : ChangeSpec := { name := "codecRows", fn := fun _ => fun
  | [d] => { results := [.lit (.bool false)], args := [d] }
  | _ => none }
def CodecRowsWrongFalsely : Prop := codecRowsRow.holds Tryz.pinned (OpenSpec.ofChange codecRowsWrong)

/- THE SECOND FORM. 'bulk': how many values and letters a reading holds, each counted each time it is reached (what is shared counts as often as it is met; a slice's spare places count too). A statement '..UptoSaid' is the law's where the arguments, and the package variables that the reading takes, are together of bulk at most 1048576: NARROWER than '..Said'. Prove '..Said' where nothing that the law and all that it calls make is longer than what came in: it says more and counts as full. Else prove '..UptoSaid'. A law counts once. -/
mutual
def uptoBulk {H : Type} : DataW H → Nat
  | .lit (.string bytes) => bytes.length + 1
  | .lit _ => 1
  | .nil => 1
  | .ptr d => uptoBulk d + 1
  | .slice elems spare => uptoBulkAll elems + uptoBulkAll spare + 1
  | .agg parts => uptoBulkAll parts + 1
  | .iface _ d => uptoBulk d + 1
  | .map entries => uptoBulkEntries entries + 1
  | .held _ => 1
def uptoBulkAll {H : Type} : List (DataW H) → Nat
  | [] => 0
  | d :: r => uptoBulk d + uptoBulkAll r
def uptoBulkEntries {H : Type} : List (Lit × DataW H) → Nat
  | [] => 0
  | x :: r => uptoBulkEntry x + uptoBulkEntries r
def uptoBulkEntry {H : Type} : Lit × DataW H → Nat
  | (.string bytes, d) => bytes.length + uptoBulk d + 1
  | (_, d) => uptoBulk d + 1
 end
def uptoSmall : (H : Type) → List (DataW H) → Bool := fun _ ds => decide (uptoBulkAll ds ≤ 1048576)
def OpenSpec.upto (s : _root_.Go.ChangeSpec) : _root_.Go.OpenSpec := { _root_.Go.OpenSpec.ofChange s with cond := some uptoSmall }

/-- 'vignettelaw13.CodecEncodes', WHERE WHAT IT READS IS OF BULK AT MOST 1048576: true; the input reads as it did. -/
def codecEncodesUptoRow : OpenClaim := { program := "ytoladolgmeanhaagreat", sum := "49d047d9e6d2eff371b4137a4102e96fd9c645e9e9ade163ac119602cac7ff22", func := "vignette/vignettelaw13.CodecEncodes", spec := "codecEncodes", unfollowed := true, recurses := true, plainKeys := false, apart := false, narrowed := true }
def CodecEncodesUptoSaid : Prop := codecEncodesUptoRow.holds Tryz.pinned (OpenSpec.upto codecEncodesSpec)

/-- 'vignettelaw13.CodecDecodes', WHERE WHAT IT READS IS OF BULK AT MOST 1048576: true; the input reads as it did. -/
def codecDecodesUptoRow : OpenClaim := { program := "ytoladolgmeanhaagreat", sum := "49d047d9e6d2eff371b4137a4102e96fd9c645e9e9ade163ac119602cac7ff22", func := "vignette/vignettelaw13.CodecDecodes", spec := "codecDecodes", unfollowed := true, recurses := true, plainKeys := false, apart := false, narrowed := true }
def CodecDecodesUptoSaid : Prop := codecDecodesUptoRow.holds Tryz.pinned (OpenSpec.upto codecDecodesSpec)

/-- 'vignettelaw13.CodecBack', WHERE WHAT IT READS IS OF BULK AT MOST 1048576: true; the input reads as it did. -/
def codecBackUptoRow : OpenClaim := { program := "ytoladolgmeanhaagreat", sum := "49d047d9e6d2eff371b4137a4102e96fd9c645e9e9ade163ac119602cac7ff22", func := "vignette/vignettelaw13.CodecBack", spec := "codecBack", unfollowed := true, recurses := true, plainKeys := false, apart := false, narrowed := true }
def CodecBackUptoSaid : Prop := codecBackUptoRow.holds Tryz.pinned (OpenSpec.upto codecBackSpec)

/-- 'vignettelaw13.CodecAny', WHERE WHAT IT READS IS OF BULK AT MOST 1048576: true; the input reads as it did. -/
def codecAnyUptoRow : OpenClaim := { program := "ytoladolgmeanhaagreat", sum := "49d047d9e6d2eff371b4137a4102e96fd9c645e9e9ade163ac119602cac7ff22", func := "vignette/vignettelaw13.CodecAny", spec := "codecAny", unfollowed := true, recurses := true, plainKeys := false, apart := false, narrowed := true }
def CodecAnyUptoSaid : Prop := codecAnyUptoRow.holds Tryz.pinned (OpenSpec.upto codecAnySpec)

/-- 'vignettelaw13.CodecPlain', WHERE WHAT IT READS IS OF BULK AT MOST 1048576: true; the input reads as it did. -/
def codecPlainUptoRow : OpenClaim := { program := "ytoladolgmeanhaagreat", sum := "49d047d9e6d2eff371b4137a4102e96fd9c645e9e9ade163ac119602cac7ff22", func := "vignette/vignettelaw13.CodecPlain", spec := "codecPlain", unfollowed := true, recurses := true, plainKeys := false, apart := false, narrowed := true }
def CodecPlainUptoSaid : Prop := codecPlainUptoRow.holds Tryz.pinned (OpenSpec.upto codecPlainSpec)

/-- 'vignettelaw13.CodecKnown', WHERE WHAT IT READS IS OF BULK AT MOST 1048576: true; the input reads as it did. -/
def codecKnownUptoRow : OpenClaim := { program := "ytoladolgmeanhaagreat", sum := "49d047d9e6d2eff371b4137a4102e96fd9c645e9e9ade163ac119602cac7ff22", func := "vignette/vignettelaw13.CodecKnown", spec := "codecKnown", unfollowed := true, recurses := true, plainKeys := false, apart := false, narrowed := true }
def CodecKnownUptoSaid : Prop := codecKnownUptoRow.holds Tryz.pinned (OpenSpec.upto codecKnownSpec)

/-- 'vignettelaw13.CodecRows', WHERE WHAT IT READS IS OF BULK AT MOST 1048576: true; the input reads as it did. -/
def codecRowsUptoRow : OpenClaim := { program := "ytoladolgmeanhaagreat", sum := "49d047d9e6d2eff371b4137a4102e96fd9c645e9e9ade163ac119602cac7ff22", func := "vignette/vignettelaw13.CodecRows", spec := "codecRows", unfollowed := true, recurses := true, plainKeys := false, apart := false, narrowed := true }
def CodecRowsUptoSaid : Prop := codecRowsUptoRow.holds Tryz.pinned (OpenSpec.upto codecRowsSpec)

end Rows
end Go.Proofs.YtoladolgmeanhaaGreat
