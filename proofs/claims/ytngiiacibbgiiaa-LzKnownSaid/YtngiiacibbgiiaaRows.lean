/-
  No cell of these rows narrows 'for every input' (looked for: loops, veiled, ifaces, maps, wideKeys, modest, calm, conditions, laid).
  DERIVED. THE GIVEN ROWS OF THIS SEAT. 7 by the template 'for every input the law returns true; each argument reads behind the call as it read before'; 0 by the template 'total and deterministic' (their statements: YtngiiacibbgiiaaTotals.lean).
  GIVEN WITH THE SEED: the statements are not yours to turn. If you find one false, say at which input.
  Laid BY PROGRAM, IN A SANDBOX (cutbox-rows.mjs): the forced cells as the released guide's own fill.sh prints them over the translation 1743516ca5f0d4f8… (all of the seat's roots in one cut). By AI agents, Wed Nov 11 2026. No macro, syntax, notation, axiom, sorry.
-/
import Derived.Test.YtngiiacibbgiiaaChecked
import GoSem.Claim
import GoSem.ClaimJoined
import GoSem.ClaimMapViews
import Derived.JoinedTies
import Derived.KernelRfl
namespace Go.Proofs.Ytngiiacibbgiiaa
/- THE CELL 'sum', in the pinned program and in every row, IS THE sha256 OF THE DUMP (.gsa) THAT YtngiiacibbgiiaaProg.lean LOADS. Nothing in Lean hashes anything: it is a label: what it is worth is what the hold of that sum in a sandbox is worth. -/
noncomputable def Try.pinned : Pinned := { name := "ytngiiacibbgiiaa", sum := "1743516ca5f0d4f8a97a5aa82c67c647658875477fc40d9a9396213f15eba777", checked := Try.checked }
namespace Rows
def none {H : Type} : Left H := { results := [], args := [] }

/-- 'vignettelaw07.LzMatches': WHATEVER THE INPUT: true; the input reads as it did. -/
def lzMatchesSpec : ChangeSpec := { name := "lzMatches", fn := fun _ => fun
  | [d] => { results := [.lit (.bool true)], args := [d] }
  | _ => none }
def lzMatchesRow : OpenClaim := { program := "ytngiiacibbgiiaa", sum := "1743516ca5f0d4f8a97a5aa82c67c647658875477fc40d9a9396213f15eba777", func := "vignette/vignettelaw07.LzMatches", spec := "lzMatches", unfollowed := true, recurses := true, plainKeys := false, apart := false }
def LzMatchesSaid : Prop := lzMatchesRow.holds Try.pinned (OpenSpec.ofChange lzMatchesSpec)

/-- ITS FALSE NEIGHBOUR: 'it returns false'. Refute it at one input. -/
def lzMatchesWrong : ChangeSpec := { name := "lzMatches", fn := fun _ => fun
  | [d] => { results := [.lit (.bool false)], args := [d] }
  | _ => none }
def LzMatchesWrongFalsely : Prop := lzMatchesRow.holds Try.pinned (OpenSpec.ofChange lzMatchesWrong)

/-- 'vignettelaw07.LzExpands': WHATEVER THE INPUT: true; the input reads as it did. -/
def lzExpandsSpec : ChangeSpec := { name := "lzExpands", fn := fun _ => fun
  | [d] => { results := [.lit (.bool true)], args := [d] }
  | _ => none }
def lzExpandsRow : OpenClaim := { program := "ytngiiacibbgiiaa", sum := "1743516ca5f0d4f8a97a5aa82c67c647658875477fc40d9a9396213f15eba777", func := "vignette/vignettelaw07.LzExpands", spec := "lzExpands", unfollowed := true, recurses := true, plainKeys := false, apart := false }
def LzExpandsSaid : Prop := lzExpandsRow.holds Try.pinned (OpenSpec.ofChange lzExpandsSpec)

/-- ITS FALSE NEIGHBOUR: 'it returns false'. Refute it at one input. -/
def lzExpandsWrong : ChangeSpec := { name := "lzExpands", fn := fun _ => fun
  | [d] => { results := [.lit (.bool false)], args := [d] }
  | _ => none }
def LzExpandsWrongFalsely : Prop := lzExpandsRow.holds Try.pinned (OpenSpec.ofChange lzExpandsWrong)

/-- 'vignettelaw07.LzBack': WHATEVER THE INPUT: true; the input reads as it did. -/
def lzBackSpec : ChangeSpec := { name := "lzBack", fn := fun _ => fun
  | [d] => { results := [.lit (.bool true)], args := [d] }
  | _ => none }
def lzBackRow : OpenClaim := { program := "ytngiiacibbgiiaa", sum := "1743516ca5f0d4f8a97a5aa82c67c647658875477fc40d9a9396213f15eba777", func := "vignette/vignettelaw07.LzBack", spec := "lzBack", unfollowed := true, recurses := true, plainKeys := false, apart := false }
def LzBackSaid : Prop := lzBackRow.holds Try.pinned (OpenSpec.ofChange lzBackSpec)

/-- ITS FALSE NEIGHBOUR: 'it returns false'. Refute it at one input. -/
def lzBackWrong : ChangeSpec := { name := "lzBack", fn := fun _ => fun
  | [d] => { results := [.lit (.bool false)], args := [d] }
  | _ => none }
def LzBackWrongFalsely : Prop := lzBackRow.holds Try.pinned (OpenSpec.ofChange lzBackWrong)

/-- 'vignettelaw07.LzTwice': WHATEVER THE INPUT: true; the input reads as it did. -/
def lzTwiceSpec : ChangeSpec := { name := "lzTwice", fn := fun _ => fun
  | [d1, d2, d3] => { results := [.lit (.bool true)], args := [d1, d2, d3] }
  | _ => none }
def lzTwiceRow : OpenClaim := { program := "ytngiiacibbgiiaa", sum := "1743516ca5f0d4f8a97a5aa82c67c647658875477fc40d9a9396213f15eba777", func := "vignette/vignettelaw07.LzTwice", spec := "lzTwice", unfollowed := true, recurses := true, plainKeys := false, apart := false }
def LzTwiceSaid : Prop := lzTwiceRow.holds Try.pinned (OpenSpec.ofChange lzTwiceSpec)

/-- ITS FALSE NEIGHBOUR: 'it returns false'. Refute it at one input. -/
def lzTwiceWrong : ChangeSpec := { name := "lzTwice", fn := fun _ => fun
  | [d1, d2, d3] => { results := [.lit (.bool false)], args := [d1, d2, d3] }
  | _ => none }
def LzTwiceWrongFalsely : Prop := lzTwiceRow.holds Try.pinned (OpenSpec.ofChange lzTwiceWrong)

/-- 'vignettelaw07.LzSplit': WHATEVER THE INPUT: true; the input reads as it did. -/
def lzSplitSpec : ChangeSpec := { name := "lzSplit", fn := fun _ => fun
  | [d1, d2] => { results := [.lit (.bool true)], args := [d1, d2] }
  | _ => none }
def lzSplitRow : OpenClaim := { program := "ytngiiacibbgiiaa", sum := "1743516ca5f0d4f8a97a5aa82c67c647658875477fc40d9a9396213f15eba777", func := "vignette/vignettelaw07.LzSplit", spec := "lzSplit", unfollowed := true, recurses := true, plainKeys := false, apart := false }
def LzSplitSaid : Prop := lzSplitRow.holds Try.pinned (OpenSpec.ofChange lzSplitSpec)

/-- ITS FALSE NEIGHBOUR: 'it returns false'. Refute it at one input. -/
def lzSplitWrong : ChangeSpec := { name := "lzSplit", fn := fun _ => fun
  | [d1, d2] => { results := [.lit (.bool false)], args := [d1, d2] }
  | _ => none }
def LzSplitWrongFalsely : Prop := lzSplitRow.holds Try.pinned (OpenSpec.ofChange lzSplitWrong)

/-- 'vignettelaw07.LzKnown': WHATEVER THE INPUT: true; the input reads as it did. -/
def lzKnownSpec : ChangeSpec := { name := "lzKnown", fn := fun _ => fun
  | [] => { results := [.lit (.bool true)], args := [] }
  | _ => none }
def lzKnownRow : OpenClaim := { program := "ytngiiacibbgiiaa", sum := "1743516ca5f0d4f8a97a5aa82c67c647658875477fc40d9a9396213f15eba777", func := "vignette/vignettelaw07.LzKnown", spec := "lzKnown", unfollowed := true, recurses := true, plainKeys := false, apart := false }
def LzKnownSaid : Prop := lzKnownRow.holds Try.pinned (OpenSpec.ofChange lzKnownSpec)

/-- ITS FALSE NEIGHBOUR: 'it returns false'. Refute it at one input. -/
def lzKnownWrong : ChangeSpec := { name := "lzKnown", fn := fun _ => fun
  | [] => { results := [.lit (.bool false)], args := [] }
  | _ => none }
def LzKnownWrongFalsely : Prop := lzKnownRow.holds Try.pinned (OpenSpec.ofChange lzKnownWrong)

/-- 'vignettelaw07.LzLongest': WHATEVER THE INPUT: true; the input reads as it did. -/
def lzLongestSpec : ChangeSpec := { name := "lzLongest", fn := fun _ => fun
  | [d] => { results := [.lit (.bool true)], args := [d] }
  | _ => none }
def lzLongestRow : OpenClaim := { program := "ytngiiacibbgiiaa", sum := "1743516ca5f0d4f8a97a5aa82c67c647658875477fc40d9a9396213f15eba777", func := "vignette/vignettelaw07.LzLongest", spec := "lzLongest", unfollowed := true, recurses := true, plainKeys := false, apart := false }
def LzLongestSaid : Prop := lzLongestRow.holds Try.pinned (OpenSpec.ofChange lzLongestSpec)

/-- ITS FALSE NEIGHBOUR: 'it returns false'. Refute it at one input. -/
def lzLongestWrong : ChangeSpec := { name := "lzLongest", fn := fun _ => fun
  | [d] => { results := [.lit (.bool false)], args := [d] }
  | _ => none }
def LzLongestWrongFalsely : Prop := lzLongestRow.holds Try.pinned (OpenSpec.ofChange lzLongestWrong)

/- THE SECOND FORM. 'bulk': how many values and letters a reading holds, each counted each time it is reached (what is shared counts as often as it is met; a slice's spare places count too). A statement '..UptoSaid' is the law's where the arguments, and the package variables that the reading takes, are together of bulk at most 1048576: NARROWER than '..Said'. Prove '..Said' where nothing that the law and all that it calls make is longer than what came in: it says more and counts as full. Else prove '..UptoSaid'. A law counts once. -/
mutual
def uptoBulk {H : Type} : DataW H → Nat
  | .lit (.string bytes) => bytes.length + 1
  | .lit _ => 1
  | .nil => 1
  | .ptr d => uptoBulk d + 1
  | .slice elems spare => uptoBulkAll elems + uptoBulkAll spare + 1
  | .agg parts => uptoBulkAll parts + 1
  | .iface _ d => uptoBulk d + 1
  | .map entries => uptoBulkEntries entries + 1
  | .held _ => 1
def uptoBulkAll {H : Type} : List (DataW H) → Nat
  | [] => 0
  | d :: r => uptoBulk d + uptoBulkAll r
def uptoBulkEntries {H : Type} : List (Lit × DataW H) → Nat
  | [] => 0
  | x :: r => uptoBulkEntry x + uptoBulkEntries r
def uptoBulkEntry {H : Type} : Lit × DataW H → Nat
  | (.string bytes, d) => bytes.length + uptoBulk d + 1
  | (_, d) => uptoBulk d + 1
 end
def uptoSmall : (H : Type) → List (DataW H) → Bool := fun _ ds => decide (uptoBulkAll ds ≤ 1048576)
def OpenSpec.upto (s : _root_.Go.ChangeSpec) : _root_.Go.OpenSpec := { _root_.Go.OpenSpec.ofChange s with cond := some uptoSmall }

/-- 'vignettelaw07.LzMatches', WHERE WHAT IT READS IS OF BULK AT MOST 1048576: true; the input reads as it did. -/
def lzMatchesUptoRow : OpenClaim := { program := "ytngiiacibbgiiaa", sum := "1743516ca5f0d4f8a97a5aa82c67c647658875477fc40d9a9396213f15eba777", func := "vignette/vignettelaw07.LzMatches", spec := "lzMatches", unfollowed := true, recurses := true, plainKeys := false, apart := false, narrowed := true }
def LzMatchesUptoSaid : Prop := lzMatchesUptoRow.holds Try.pinned (OpenSpec.upto lzMatchesSpec)

/-- 'vignettelaw07.LzExpands', WHERE WHAT IT READS IS OF BULK AT MOST 1048576: true; the input reads as it did. -/
def lzExpandsUptoRow : OpenClaim := { program := "ytngiiacibbgiiaa", sum := "1743516ca5f0d4f8a97a5aa82c67c647658875477fc40d9a9396213f15eba777", func := "vignette/vignettelaw07.LzExpands", spec := "lzExpands", unfollowed := true, recurses := true, plainKeys := false, apart := false, narrowed := true }
def LzExpandsUptoSaid : Prop := lzExpandsUptoRow.holds Try.pinned (OpenSpec.upto lzExpandsSpec)

/-- 'vignettelaw07.LzBack', WHERE WHAT IT READS IS OF BULK AT MOST 1048576: true; the input reads as it did. -/
def lzBackUptoRow : OpenClaim := { program := "ytngiiacibbgiiaa", sum := "1743516ca5f0d4f8a97a5aa82c67c647658875477fc40d9a9396213f15eba777", func := "vignette/vignettelaw07.LzBack", spec := "lzBack", unfollowed := true, recurses := true, plainKeys := false, apart := false, narrowed := true }
def LzBackUptoSaid : Prop := lzBackUptoRow.holds Try.pinned (OpenSpec.upto lzBackSpec)

/-- 'vignettelaw07.LzTwice', WHERE WHAT IT READS IS OF BULK AT MOST 1048576: true; the input reads as it did. -/
def lzTwiceUptoRow : OpenClaim := { program := "ytngiiacibbgiiaa", sum := "1743516ca5f0d4f8a97a5aa82c67c647658875477fc40d9a9396213f15eba777", func := "vignette/vignettelaw07.LzTwice", spec := "lzTwice", unfollowed := true, recurses := true, plainKeys := false, apart := false, narrowed := true }
def LzTwiceUptoSaid : Prop := lzTwiceUptoRow.holds Try.pinned (OpenSpec.upto lzTwiceSpec)

/-- 'vignettelaw07.LzSplit', WHERE WHAT IT READS IS OF BULK AT MOST 1048576: true; the input reads as it did. -/
def lzSplitUptoRow : OpenClaim := { program := "ytngiiacibbgiiaa", sum := "1743516ca5f0d4f8a97a5aa82c67c647658875477fc40d9a9396213f15eba777", func := "vignette/vignettelaw07.LzSplit", spec := "lzSplit", unfollowed := true, recurses := true, plainKeys := false, apart := false, narrowed := true }
def LzSplitUptoSaid : Prop := lzSplitUptoRow.holds Try.pinned (OpenSpec.upto lzSplitSpec)

/-- 'vignettelaw07.LzKnown', WHERE WHAT IT READS IS OF BULK AT MOST 1048576: true; the input reads as it did. -/
def lzKnownUptoRow : OpenClaim := { program := "ytngiiacibbgiiaa", sum := "1743516ca5f0d4f8a97a5aa82c67c647658875477fc40d9a9396213f15eba777", func := "vignette/vignettelaw07.LzKnown", spec := "lzKnown", unfollowed := true, recurses := true, plainKeys := false, apart := false, narrowed := true }
def LzKnownUptoSaid : Prop := lzKnownUptoRow.holds Try.pinned (OpenSpec.upto lzKnownSpec)

/-- 'vignettelaw07.LzLongest', WHERE WHAT IT READS IS OF BULK AT MOST 1048576: true; the input reads as it did. -/
def lzLongestUptoRow : OpenClaim := { program := "ytngiiacibbgiiaa", sum := "1743516ca5f0d4f8a97a5aa82c67c647658875477fc40d9a9396213f15eba777", func := "vignette/vignettelaw07.LzLongest", spec := "lzLongest", unfollowed := true, recurses := true, plainKeys := false, apart := false, narrowed := true }
def LzLongestUptoSaid : Prop := lzLongestUptoRow.holds Try.pinned (OpenSpec.upto lzLongestSpec)

end Rows
end Go.Proofs.Ytngiiacibbgiiaa
