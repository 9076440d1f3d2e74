/-
  No cell of these rows narrows 'for every input' (looked for: loops, veiled, ifaces, maps, wideKeys, modest, calm, conditions, laid).
  DERIVED. THE GIVEN ROWS OF THIS SEAT. 6 by the template 'for every input the law returns true; each argument reads behind the call as it read before'; 0 by the template 'total and deterministic' (their statements: YtebfdoipogjpnaaGreatTotals.lean).
  GIVEN WITH THE SEED: the statements are not yours to turn. If you find one false, say at which input.
  Laid BY PROGRAM, IN A SANDBOX (cutbox-rows.mjs): the forced cells as the released guide's own fill.sh prints them over the translation b972832e935f3b6e… (all of the seat's roots in one cut). By AI agents, Wed Nov 11 2026. No macro, syntax, notation, axiom, sorry.
-/
import Derived.Test.YtebfdoipogjpnaaGreatChecked
import GoSem.Claim
import GoSem.ClaimJoined
import GoSem.ClaimMapViews
import Derived.JoinedTies
import Derived.KernelRfl
namespace Go.Proofs.YtebfdoipogjpnaaGreat
/- THE CELL 'sum', in the pinned program and in every row, IS THE sha256 OF THE DUMP (.gsa) THAT YtebfdoipogjpnaaGreatProg.lean LOADS. Nothing in Lean hashes anything: it is a label: what it is worth is what the hold of that sum in a sandbox is worth. -/
noncomputable def Tryz.pinned : Pinned := { name := "ytebfdoipogjpnaagreat", sum := "b972832e935f3b6e142204de814f5d812f11d743329bd7afb46cee44ecb88843", checked := Tryz.checked }
namespace Rows
def none {H : Type} : Left H := { results := [], args := [] }

/-- 'vignettelaw09.DeflateReads': WHATEVER THE INPUT: true; the input reads as it did. -/
def deflateReadsSpec : ChangeSpec := { name := "deflateReads", fn := fun _ => fun
  | [d] => { results := [.lit (.bool true)], args := [d] }
  | _ => none }
def deflateReadsRow : OpenClaim := { program := "ytebfdoipogjpnaagreat", sum := "b972832e935f3b6e142204de814f5d812f11d743329bd7afb46cee44ecb88843", func := "vignette/vignettelaw09.DeflateReads", spec := "deflateReads", unfollowed := true, recurses := true, plainKeys := false, apart := false }
def DeflateReadsSaid : Prop := deflateReadsRow.holds Tryz.pinned (OpenSpec.ofChange deflateReadsSpec)

/-- ITS FALSE NEIGHBOUR: 'it returns false'. Refute it at one input. -/
def deflateReadsWrong : ChangeSpec := { name := "deflateReads", fn := fun _ => fun
  | [d] => { results := [.lit (.bool false)], args := [d] }
  | _ => none }
def DeflateReadsWrongFalsely : Prop := deflateReadsRow.holds Tryz.pinned (OpenSpec.ofChange deflateReadsWrong)

/-- 'vignettelaw09.DeflateSmall': WHATEVER THE INPUT: true; the input reads as it did. -/
def deflateSmallSpec : ChangeSpec := { name := "deflateSmall", fn := fun _ => fun
  | [d] => { results := [.lit (.bool true)], args := [d] }
  | _ => none }
def deflateSmallRow : OpenClaim := { program := "ytebfdoipogjpnaagreat", sum := "b972832e935f3b6e142204de814f5d812f11d743329bd7afb46cee44ecb88843", func := "vignette/vignettelaw09.DeflateSmall", spec := "deflateSmall", unfollowed := true, recurses := true, plainKeys := false, apart := false }
def DeflateSmallSaid : Prop := deflateSmallRow.holds Tryz.pinned (OpenSpec.ofChange deflateSmallSpec)

/-- ITS FALSE NEIGHBOUR: 'it returns false'. Refute it at one input. -/
def deflateSmallWrong : ChangeSpec := { name := "deflateSmall", fn := fun _ => fun
  | [d] => { results := [.lit (.bool false)], args := [d] }
  | _ => none }
def DeflateSmallWrongFalsely : Prop := deflateSmallRow.holds Tryz.pinned (OpenSpec.ofChange deflateSmallWrong)

/-- 'vignettelaw09.DeflateBack': WHATEVER THE INPUT: true; the input reads as it did. -/
def deflateBackSpec : ChangeSpec := { name := "deflateBack", fn := fun _ => fun
  | [d1, d2] => { results := [.lit (.bool true)], args := [d1, d2] }
  | _ => none }
def deflateBackRow : OpenClaim := { program := "ytebfdoipogjpnaagreat", sum := "b972832e935f3b6e142204de814f5d812f11d743329bd7afb46cee44ecb88843", func := "vignette/vignettelaw09.DeflateBack", spec := "deflateBack", unfollowed := true, recurses := true, plainKeys := false, apart := false }
def DeflateBackSaid : Prop := deflateBackRow.holds Tryz.pinned (OpenSpec.ofChange deflateBackSpec)

/-- ITS FALSE NEIGHBOUR: 'it returns false'. Refute it at one input. -/
def deflateBackWrong : ChangeSpec := { name := "deflateBack", fn := fun _ => fun
  | [d1, d2] => { results := [.lit (.bool false)], args := [d1, d2] }
  | _ => none }
def DeflateBackWrongFalsely : Prop := deflateBackRow.holds Tryz.pinned (OpenSpec.ofChange deflateBackWrong)

/-- 'vignettelaw09.DeflateRow': WHATEVER THE INPUT: true; the input reads as it did. -/
def deflateRowSpec : ChangeSpec := { name := "deflateRow", fn := fun _ => fun
  | [d1, d2] => { results := [.lit (.bool true)], args := [d1, d2] }
  | _ => none }
def deflateRowRow : OpenClaim := { program := "ytebfdoipogjpnaagreat", sum := "b972832e935f3b6e142204de814f5d812f11d743329bd7afb46cee44ecb88843", func := "vignette/vignettelaw09.DeflateRow", spec := "deflateRow", unfollowed := true, recurses := true, plainKeys := false, apart := false }
def DeflateRowSaid : Prop := deflateRowRow.holds Tryz.pinned (OpenSpec.ofChange deflateRowSpec)

/-- ITS FALSE NEIGHBOUR: 'it returns false'. Refute it at one input. -/
def deflateRowWrong : ChangeSpec := { name := "deflateRow", fn := fun _ => fun
  | [d1, d2] => { results := [.lit (.bool false)], args := [d1, d2] }
  | _ => none }
def DeflateRowWrongFalsely : Prop := deflateRowRow.holds Tryz.pinned (OpenSpec.ofChange deflateRowWrong)

/-- 'vignettelaw09.DeflateKnown': WHATEVER THE INPUT: true; the input reads as it did. -/
def deflateKnownSpec : ChangeSpec := { name := "deflateKnown", fn := fun _ => fun
  | [] => { results := [.lit (.bool true)], args := [] }
  | _ => none }
def deflateKnownRow : OpenClaim := { program := "ytebfdoipogjpnaagreat", sum := "b972832e935f3b6e142204de814f5d812f11d743329bd7afb46cee44ecb88843", func := "vignette/vignettelaw09.DeflateKnown", spec := "deflateKnown", unfollowed := true, recurses := true, plainKeys := false, apart := false }
def DeflateKnownSaid : Prop := deflateKnownRow.holds Tryz.pinned (OpenSpec.ofChange deflateKnownSpec)

/-- ITS FALSE NEIGHBOUR: 'it returns false'. Refute it at one input. -/
def deflateKnownWrong : ChangeSpec := { name := "deflateKnown", fn := fun _ => fun
  | [] => { results := [.lit (.bool false)], args := [] }
  | _ => none }
def DeflateKnownWrongFalsely : Prop := deflateKnownRow.holds Tryz.pinned (OpenSpec.ofChange deflateKnownWrong)

/-- 'vignettelaw10.TilesTells': WHATEVER THE INPUT: true; the input reads as it did. -/
def tilesTellsSpec : ChangeSpec := { name := "tilesTells", fn := fun _ => fun
  | [d1, d2, d3, d4] => { results := [.lit (.bool true)], args := [d1, d2, d3, d4] }
  | _ => none }
def tilesTellsRow : OpenClaim := { program := "ytebfdoipogjpnaagreat", sum := "b972832e935f3b6e142204de814f5d812f11d743329bd7afb46cee44ecb88843", func := "vignette/vignettelaw10.TilesTells", spec := "tilesTells", unfollowed := true, recurses := true, plainKeys := false, apart := false }
def TilesTellsSaid : Prop := tilesTellsRow.holds Tryz.pinned (OpenSpec.ofChange tilesTellsSpec)

/-- ITS FALSE NEIGHBOUR: 'it returns false'. Refute it at one input. -/
def tilesTellsWrong : ChangeSpec := { name := "tilesTells", fn := fun _ => fun
  | [d1, d2, d3, d4] => { results := [.lit (.bool false)], args := [d1, d2, d3, d4] }
  | _ => none }
def TilesTellsWrongFalsely : Prop := tilesTellsRow.holds Tryz.pinned (OpenSpec.ofChange tilesTellsWrong)

/- THE SECOND FORM. 'bulk': how many values and letters a reading holds, each counted each time it is reached (what is shared counts as often as it is met; a slice's spare places count too). A statement '..UptoSaid' is the law's where the arguments, and the package variables that the reading takes, are together of bulk at most 1048576: NARROWER than '..Said'. Prove '..Said' where nothing that the law and all that it calls make is longer than what came in: it says more and counts as full. Else prove '..UptoSaid'. A law counts once. -/
mutual
def uptoBulk {H : Type} : DataW H → Nat
  | .lit (.string bytes) => bytes.length + 1
  | .lit _ => 1
  | .nil => 1
  | .ptr d => uptoBulk d + 1
  | .slice elems spare => uptoBulkAll elems + uptoBulkAll spare + 1
  | .agg parts => uptoBulkAll parts + 1
  | .iface _ d => uptoBulk d + 1
  | .map entries => uptoBulkEntries entries + 1
  | .held _ => 1
def uptoBulkAll {H : Type} : List (DataW H) → Nat
  | [] => 0
  | d :: r => uptoBulk d + uptoBulkAll r
def uptoBulkEntries {H : Type} : List (Lit × DataW H) → Nat
  | [] => 0
  | x :: r => uptoBulkEntry x + uptoBulkEntries r
def uptoBulkEntry {H : Type} : Lit × DataW H → Nat
  | (.string bytes, d) => bytes.length + uptoBulk d + 1
  | (_, d) => uptoBulk d + 1
 end
def uptoSmall : (H : Type) → List (DataW H) → Bool := fun _ ds => decide (uptoBulkAll ds ≤ 1048576)
def OpenSpec.upto (s : _root_.Go.ChangeSpec) : _root_.Go.OpenSpec := { _root_.Go.OpenSpec.ofChange s with cond := some uptoSmall }

/-- 'vignettelaw09.DeflateReads', WHERE WHAT IT READS IS OF BULK AT MOST 1048576: true; the input reads as it did. -/
def deflateReadsUptoRow : OpenClaim := { program := "ytebfdoipogjpnaagreat", sum := "b972832e935f3b6e142204de814f5d812f11d743329bd7afb46cee44ecb88843", func := "vignette/vignettelaw09.DeflateReads", spec := "deflateReads", unfollowed := true, recurses := true, plainKeys := false, apart := false, narrowed := true }
def DeflateReadsUptoSaid : Prop := deflateReadsUptoRow.holds Tryz.pinned (OpenSpec.upto deflateReadsSpec)

/-- 'vignettelaw09.DeflateSmall', WHERE WHAT IT READS IS OF BULK AT MOST 1048576: true; the input reads as it did. -/
def deflateSmallUptoRow : OpenClaim := { program := "ytebfdoipogjpnaagreat", sum := "b972832e935f3b6e142204de814f5d812f11d743329bd7afb46cee44ecb88843", func := "vignette/vignettelaw09.DeflateSmall", spec := "deflateSmall", unfollowed := true, recurses := true, plainKeys := false, apart := false, narrowed := true }
def DeflateSmallUptoSaid : Prop := deflateSmallUptoRow.holds Tryz.pinned (OpenSpec.upto deflateSmallSpec)

/-- 'vignettelaw09.DeflateBack', WHERE WHAT IT READS IS OF BULK AT MOST 1048576: true; the input reads as it did. -/
def deflateBackUptoRow : OpenClaim := { program := "ytebfdoipogjpnaagreat", sum := "b972832e935f3b6e142204de814f5d812f11d743329bd7afb46cee44ecb88843", func := "vignette/vignettelaw09.DeflateBack", spec := "deflateBack", unfollowed := true, recurses := true, plainKeys := false, apart := false, narrowed := true }
def DeflateBackUptoSaid : Prop := deflateBackUptoRow.holds Tryz.pinned (OpenSpec.upto deflateBackSpec)

/-- 'vignettelaw09.DeflateRow', WHERE WHAT IT READS IS OF BULK AT MOST 1048576: true; the input reads as it did. -/
def deflateRowUptoRow : OpenClaim := { program := "ytebfdoipogjpnaagreat", sum := "b972832e935f3b6e142204de814f5d812f11d743329bd7afb46cee44ecb88843", func := "vignette/vignettelaw09.DeflateRow", spec := "deflateRow", unfollowed := true, recurses := true, plainKeys := false, apart := false, narrowed := true }
def DeflateRowUptoSaid : Prop := deflateRowUptoRow.holds Tryz.pinned (OpenSpec.upto deflateRowSpec)

/-- 'vignettelaw09.DeflateKnown', WHERE WHAT IT READS IS OF BULK AT MOST 1048576: true; the input reads as it did. -/
def deflateKnownUptoRow : OpenClaim := { program := "ytebfdoipogjpnaagreat", sum := "b972832e935f3b6e142204de814f5d812f11d743329bd7afb46cee44ecb88843", func := "vignette/vignettelaw09.DeflateKnown", spec := "deflateKnown", unfollowed := true, recurses := true, plainKeys := false, apart := false, narrowed := true }
def DeflateKnownUptoSaid : Prop := deflateKnownUptoRow.holds Tryz.pinned (OpenSpec.upto deflateKnownSpec)

/-- 'vignettelaw10.TilesTells', WHERE WHAT IT READS IS OF BULK AT MOST 1048576: true; the input reads as it did. -/
def tilesTellsUptoRow : OpenClaim := { program := "ytebfdoipogjpnaagreat", sum := "b972832e935f3b6e142204de814f5d812f11d743329bd7afb46cee44ecb88843", func := "vignette/vignettelaw10.TilesTells", spec := "tilesTells", unfollowed := true, recurses := true, plainKeys := false, apart := false, narrowed := true }
def TilesTellsUptoSaid : Prop := tilesTellsUptoRow.holds Tryz.pinned (OpenSpec.upto tilesTellsSpec)

end Rows
end Go.Proofs.YtebfdoipogjpnaaGreat
