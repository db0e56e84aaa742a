/-
  No cell of these rows narrows 'for every input' (looked for: loops, veiled, ifaces, maps, wideKeys, modest, calm, conditions, laid).
  DERIVED. THE GIVEN ROWS OF THIS SEAT. 8 by the template 'for every input the law returns true; each argument reads behind the call as it read before'; 0 by the template 'total and deterministic' (their statements: YtichenjbkclljaaTotals.lean).
  GIVEN WITH THE SEED: the statements are not yours to turn. If you find one false, say at which input.
  Laid BY PROGRAM, IN A SANDBOX (cutbox-rows.mjs): the forced cells as the released guide's own fill.sh prints them over the translation 06adbb2b93fb0f4a… (all of the seat's roots in one cut). By AI agents, Wed Nov 11 2026. No macro, syntax, notation, axiom, sorry.
-/
import Derived.Test.YtichenjbkclljaaChecked
import GoSem.Claim
import GoSem.ClaimJoined
import GoSem.ClaimMapViews
import Derived.JoinedTies
import Derived.KernelRfl
namespace Go.Proofs.Ytichenjbkclljaa
/- THE CELL 'sum', in the pinned program and in every row, IS THE sha256 OF THE DUMP (.gsa) THAT YtichenjbkclljaaProg.lean LOADS. Nothing in Lean hashes anything: it is a label: what it is worth is what the hold of that sum in a sandbox is worth. -/
noncomputable def Try.pinned : Pinned := { name := "ytichenjbkclljaa", sum := "06adbb2b93fb0f4a171e04183b9ad4e80fca8628b0fd0c60b390e9a6d581ea45", checked := Try.checked }
namespace Rows
def none {H : Type} : Left H := { results := [], args := [] }

/-- 'laws.FnPatterns': WHATEVER THE INPUT: true; the input reads as it did. -/
def fnPatternsSpec : ChangeSpec := { name := "fnPatterns", fn := fun _ => fun
  | [d] => { results := [.lit (.bool true)], args := [d] }
  | _ => none }
def fnPatternsRow : OpenClaim := { program := "ytichenjbkclljaa", sum := "06adbb2b93fb0f4a171e04183b9ad4e80fca8628b0fd0c60b390e9a6d581ea45", func := "loop.example/g03101/laws.FnPatterns", spec := "fnPatterns", unfollowed := true, recurses := true, apart := false }
def FnPatternsSaid : Prop := fnPatternsRow.holds Try.pinned (OpenSpec.ofChange fnPatternsSpec)

/-- ITS FALSE NEIGHBOUR: 'it returns false'. Refute it at one input. -/
def fnPatternsWrong : ChangeSpec := { name := "fnPatterns", fn := fun _ => fun
  | [d] => { results := [.lit (.bool false)], args := [d] }
  | _ => none }
def FnPatternsWrongFalsely : Prop := fnPatternsRow.holds Try.pinned (OpenSpec.ofChange fnPatternsWrong)

/-- 'laws.FnExactIsOccurrence': WHATEVER THE INPUT: true; the input reads as it did. -/
def fnExactIsOccurrenceSpec : ChangeSpec := { name := "fnExactIsOccurrence", fn := fun _ => fun
  | [d1, d2, d3] => { results := [.lit (.bool true)], args := [d1, d2, d3] }
  | _ => none }
def fnExactIsOccurrenceRow : OpenClaim := { program := "ytichenjbkclljaa", sum := "06adbb2b93fb0f4a171e04183b9ad4e80fca8628b0fd0c60b390e9a6d581ea45", func := "loop.example/g03101/laws.FnExactIsOccurrence", spec := "fnExactIsOccurrence", unfollowed := true, recurses := true, apart := false }
def FnExactIsOccurrenceSaid : Prop := fnExactIsOccurrenceRow.holds Try.pinned (OpenSpec.ofChange fnExactIsOccurrenceSpec)

/-- ITS FALSE NEIGHBOUR: 'it returns false'. Refute it at one input. -/
def fnExactIsOccurrenceWrong : ChangeSpec := { name := "fnExactIsOccurrence", fn := fun _ => fun
  | [d1, d2, d3] => { results := [.lit (.bool false)], args := [d1, d2, d3] }
  | _ => none }
def FnExactIsOccurrenceWrongFalsely : Prop := fnExactIsOccurrenceRow.holds Try.pinned (OpenSpec.ofChange fnExactIsOccurrenceWrong)

/-- 'laws.FnExactOccurrencesOf': WHATEVER THE INPUT: true; the input reads as it did. -/
def fnExactOccurrencesOfSpec : ChangeSpec := { name := "fnExactOccurrencesOf", fn := fun _ => fun
  | [d1, d2] => { results := [.lit (.bool true)], args := [d1, d2] }
  | _ => none }
def fnExactOccurrencesOfRow : OpenClaim := { program := "ytichenjbkclljaa", sum := "06adbb2b93fb0f4a171e04183b9ad4e80fca8628b0fd0c60b390e9a6d581ea45", func := "loop.example/g03101/laws.FnExactOccurrencesOf", spec := "fnExactOccurrencesOf", unfollowed := true, recurses := true, apart := false }
def FnExactOccurrencesOfSaid : Prop := fnExactOccurrencesOfRow.holds Try.pinned (OpenSpec.ofChange fnExactOccurrencesOfSpec)

/-- ITS FALSE NEIGHBOUR: 'it returns false'. Refute it at one input. -/
def fnExactOccurrencesOfWrong : ChangeSpec := { name := "fnExactOccurrencesOf", fn := fun _ => fun
  | [d1, d2] => { results := [.lit (.bool false)], args := [d1, d2] }
  | _ => none }
def FnExactOccurrencesOfWrongFalsely : Prop := fnExactOccurrencesOfRow.holds Try.pinned (OpenSpec.ofChange fnExactOccurrencesOfWrong)

/-- 'laws.FnExactCountPattern': WHATEVER THE INPUT: true; the input reads as it did. -/
def fnExactCountPatternSpec : ChangeSpec := { name := "fnExactCountPattern", fn := fun _ => fun
  | [d1, d2] => { results := [.lit (.bool true)], args := [d1, d2] }
  | _ => none }
def fnExactCountPatternRow : OpenClaim := { program := "ytichenjbkclljaa", sum := "06adbb2b93fb0f4a171e04183b9ad4e80fca8628b0fd0c60b390e9a6d581ea45", func := "loop.example/g03101/laws.FnExactCountPattern", spec := "fnExactCountPattern", unfollowed := true, recurses := true, apart := false }
def FnExactCountPatternSaid : Prop := fnExactCountPatternRow.holds Try.pinned (OpenSpec.ofChange fnExactCountPatternSpec)

/-- ITS FALSE NEIGHBOUR: 'it returns false'. Refute it at one input. -/
def fnExactCountPatternWrong : ChangeSpec := { name := "fnExactCountPattern", fn := fun _ => fun
  | [d1, d2] => { results := [.lit (.bool false)], args := [d1, d2] }
  | _ => none }
def FnExactCountPatternWrongFalsely : Prop := fnExactCountPatternRow.holds Try.pinned (OpenSpec.ofChange fnExactCountPatternWrong)

/-- 'laws.FnExactHasPattern': WHATEVER THE INPUT: true; the input reads as it did. -/
def fnExactHasPatternSpec : ChangeSpec := { name := "fnExactHasPattern", fn := fun _ => fun
  | [d1, d2] => { results := [.lit (.bool true)], args := [d1, d2] }
  | _ => none }
def fnExactHasPatternRow : OpenClaim := { program := "ytichenjbkclljaa", sum := "06adbb2b93fb0f4a171e04183b9ad4e80fca8628b0fd0c60b390e9a6d581ea45", func := "loop.example/g03101/laws.FnExactHasPattern", spec := "fnExactHasPattern", unfollowed := true, recurses := true, apart := false }
def FnExactHasPatternSaid : Prop := fnExactHasPatternRow.holds Try.pinned (OpenSpec.ofChange fnExactHasPatternSpec)

/-- ITS FALSE NEIGHBOUR: 'it returns false'. Refute it at one input. -/
def fnExactHasPatternWrong : ChangeSpec := { name := "fnExactHasPattern", fn := fun _ => fun
  | [d1, d2] => { results := [.lit (.bool false)], args := [d1, d2] }
  | _ => none }
def FnExactHasPatternWrongFalsely : Prop := fnExactHasPatternRow.holds Try.pinned (OpenSpec.ofChange fnExactHasPatternWrong)

/-- 'laws.FnExactPatternsIn': WHATEVER THE INPUT: true; the input reads as it did. -/
def fnExactPatternsInSpec : ChangeSpec := { name := "fnExactPatternsIn", fn := fun _ => fun
  | [d1, d2] => { results := [.lit (.bool true)], args := [d1, d2] }
  | _ => none }
def fnExactPatternsInRow : OpenClaim := { program := "ytichenjbkclljaa", sum := "06adbb2b93fb0f4a171e04183b9ad4e80fca8628b0fd0c60b390e9a6d581ea45", func := "loop.example/g03101/laws.FnExactPatternsIn", spec := "fnExactPatternsIn", unfollowed := true, recurses := true, apart := false }
def FnExactPatternsInSaid : Prop := fnExactPatternsInRow.holds Try.pinned (OpenSpec.ofChange fnExactPatternsInSpec)

/-- ITS FALSE NEIGHBOUR: 'it returns false'. Refute it at one input. -/
def fnExactPatternsInWrong : ChangeSpec := { name := "fnExactPatternsIn", fn := fun _ => fun
  | [d1, d2] => { results := [.lit (.bool false)], args := [d1, d2] }
  | _ => none }
def FnExactPatternsInWrongFalsely : Prop := fnExactPatternsInRow.holds Try.pinned (OpenSpec.ofChange fnExactPatternsInWrong)

/-- 'laws.FnExactLowersOf': WHATEVER THE INPUT: true; the input reads as it did. -/
def fnExactLowersOfSpec : ChangeSpec := { name := "fnExactLowersOf", fn := fun _ => fun
  | [d] => { results := [.lit (.bool true)], args := [d] }
  | _ => none }
def fnExactLowersOfRow : OpenClaim := { program := "ytichenjbkclljaa", sum := "06adbb2b93fb0f4a171e04183b9ad4e80fca8628b0fd0c60b390e9a6d581ea45", func := "loop.example/g03101/laws.FnExactLowersOf", spec := "fnExactLowersOf", unfollowed := true, recurses := true, apart := false }
def FnExactLowersOfSaid : Prop := fnExactLowersOfRow.holds Try.pinned (OpenSpec.ofChange fnExactLowersOfSpec)

/-- ITS FALSE NEIGHBOUR: 'it returns false'. Refute it at one input. -/
def fnExactLowersOfWrong : ChangeSpec := { name := "fnExactLowersOf", fn := fun _ => fun
  | [d] => { results := [.lit (.bool false)], args := [d] }
  | _ => none }
def FnExactLowersOfWrongFalsely : Prop := fnExactLowersOfRow.holds Try.pinned (OpenSpec.ofChange fnExactLowersOfWrong)

/-- 'laws.FnExactCountNear': WHATEVER THE INPUT: true; the input reads as it did. -/
def fnExactCountNearSpec : ChangeSpec := { name := "fnExactCountNear", fn := fun _ => fun
  | [d1, d2] => { results := [.lit (.bool true)], args := [d1, d2] }
  | _ => none }
def fnExactCountNearRow : OpenClaim := { program := "ytichenjbkclljaa", sum := "06adbb2b93fb0f4a171e04183b9ad4e80fca8628b0fd0c60b390e9a6d581ea45", func := "loop.example/g03101/laws.FnExactCountNear", spec := "fnExactCountNear", unfollowed := true, recurses := true, apart := false }
def FnExactCountNearSaid : Prop := fnExactCountNearRow.holds Try.pinned (OpenSpec.ofChange fnExactCountNearSpec)

/-- ITS FALSE NEIGHBOUR: 'it returns false'. Refute it at one input. -/
def fnExactCountNearWrong : ChangeSpec := { name := "fnExactCountNear", fn := fun _ => fun
  | [d1, d2] => { results := [.lit (.bool false)], args := [d1, d2] }
  | _ => none }
def FnExactCountNearWrongFalsely : Prop := fnExactCountNearRow.holds Try.pinned (OpenSpec.ofChange fnExactCountNearWrong)

/- THE SECOND FORM. 'bulk': how many values and letters a reading holds, each counted each time it is reached (what is shared counts as often as it is met; a slice's spare places count too). A statement '..UptoSaid' is the law's where the arguments, and the package variables that the reading takes, are together of bulk at most 1048576: NARROWER than '..Said'. Prove '..Said' where nothing that the law and all that it calls make is longer than what came in: it says more and counts as full. Else prove '..UptoSaid'. A law counts once. -/
mutual
def uptoBulk {H : Type} : DataW H → Nat
  | .lit (.string bytes) => bytes.length + 1
  | .lit _ => 1
  | .nil => 1
  | .ptr d => uptoBulk d + 1
  | .slice elems spare => uptoBulkAll elems + uptoBulkAll spare + 1
  | .agg parts => uptoBulkAll parts + 1
  | .iface _ d => uptoBulk d + 1
  | .map entries => uptoBulkEntries entries + 1
  | .held _ => 1
def uptoBulkAll {H : Type} : List (DataW H) → Nat
  | [] => 0
  | d :: r => uptoBulk d + uptoBulkAll r
def uptoBulkEntries {H : Type} : List (Lit × DataW H) → Nat
  | [] => 0
  | x :: r => uptoBulkEntry x + uptoBulkEntries r
def uptoBulkEntry {H : Type} : Lit × DataW H → Nat
  | (.string bytes, d) => bytes.length + uptoBulk d + 1
  | (_, d) => uptoBulk d + 1
 end
def uptoSmall : (H : Type) → List (DataW H) → Bool := fun _ ds => decide (uptoBulkAll ds ≤ 1048576)
def OpenSpec.upto (s : _root_.Go.ChangeSpec) : _root_.Go.OpenSpec := { _root_.Go.OpenSpec.ofChange s with cond := some uptoSmall }

/-- 'laws.FnPatterns', WHERE WHAT IT READS IS OF BULK AT MOST 1048576: true; the input reads as it did. -/
def fnPatternsUptoRow : OpenClaim := { program := "ytichenjbkclljaa", sum := "06adbb2b93fb0f4a171e04183b9ad4e80fca8628b0fd0c60b390e9a6d581ea45", func := "loop.example/g03101/laws.FnPatterns", spec := "fnPatterns", unfollowed := true, recurses := true, apart := false, narrowed := true }
def FnPatternsUptoSaid : Prop := fnPatternsUptoRow.holds Try.pinned (OpenSpec.upto fnPatternsSpec)

/-- 'laws.FnExactIsOccurrence', WHERE WHAT IT READS IS OF BULK AT MOST 1048576: true; the input reads as it did. -/
def fnExactIsOccurrenceUptoRow : OpenClaim := { program := "ytichenjbkclljaa", sum := "06adbb2b93fb0f4a171e04183b9ad4e80fca8628b0fd0c60b390e9a6d581ea45", func := "loop.example/g03101/laws.FnExactIsOccurrence", spec := "fnExactIsOccurrence", unfollowed := true, recurses := true, apart := false, narrowed := true }
def FnExactIsOccurrenceUptoSaid : Prop := fnExactIsOccurrenceUptoRow.holds Try.pinned (OpenSpec.upto fnExactIsOccurrenceSpec)

/-- 'laws.FnExactOccurrencesOf', WHERE WHAT IT READS IS OF BULK AT MOST 1048576: true; the input reads as it did. -/
def fnExactOccurrencesOfUptoRow : OpenClaim := { program := "ytichenjbkclljaa", sum := "06adbb2b93fb0f4a171e04183b9ad4e80fca8628b0fd0c60b390e9a6d581ea45", func := "loop.example/g03101/laws.FnExactOccurrencesOf", spec := "fnExactOccurrencesOf", unfollowed := true, recurses := true, apart := false, narrowed := true }
def FnExactOccurrencesOfUptoSaid : Prop := fnExactOccurrencesOfUptoRow.holds Try.pinned (OpenSpec.upto fnExactOccurrencesOfSpec)

/-- 'laws.FnExactCountPattern', WHERE WHAT IT READS IS OF BULK AT MOST 1048576: true; the input reads as it did. -/
def fnExactCountPatternUptoRow : OpenClaim := { program := "ytichenjbkclljaa", sum := "06adbb2b93fb0f4a171e04183b9ad4e80fca8628b0fd0c60b390e9a6d581ea45", func := "loop.example/g03101/laws.FnExactCountPattern", spec := "fnExactCountPattern", unfollowed := true, recurses := true, apart := false, narrowed := true }
def FnExactCountPatternUptoSaid : Prop := fnExactCountPatternUptoRow.holds Try.pinned (OpenSpec.upto fnExactCountPatternSpec)

/-- 'laws.FnExactHasPattern', WHERE WHAT IT READS IS OF BULK AT MOST 1048576: true; the input reads as it did. -/
def fnExactHasPatternUptoRow : OpenClaim := { program := "ytichenjbkclljaa", sum := "06adbb2b93fb0f4a171e04183b9ad4e80fca8628b0fd0c60b390e9a6d581ea45", func := "loop.example/g03101/laws.FnExactHasPattern", spec := "fnExactHasPattern", unfollowed := true, recurses := true, apart := false, narrowed := true }
def FnExactHasPatternUptoSaid : Prop := fnExactHasPatternUptoRow.holds Try.pinned (OpenSpec.upto fnExactHasPatternSpec)

/-- 'laws.FnExactPatternsIn', WHERE WHAT IT READS IS OF BULK AT MOST 1048576: true; the input reads as it did. -/
def fnExactPatternsInUptoRow : OpenClaim := { program := "ytichenjbkclljaa", sum := "06adbb2b93fb0f4a171e04183b9ad4e80fca8628b0fd0c60b390e9a6d581ea45", func := "loop.example/g03101/laws.FnExactPatternsIn", spec := "fnExactPatternsIn", unfollowed := true, recurses := true, apart := false, narrowed := true }
def FnExactPatternsInUptoSaid : Prop := fnExactPatternsInUptoRow.holds Try.pinned (OpenSpec.upto fnExactPatternsInSpec)

/-- 'laws.FnExactLowersOf', WHERE WHAT IT READS IS OF BULK AT MOST 1048576: true; the input reads as it did. -/
def fnExactLowersOfUptoRow : OpenClaim := { program := "ytichenjbkclljaa", sum := "06adbb2b93fb0f4a171e04183b9ad4e80fca8628b0fd0c60b390e9a6d581ea45", func := "loop.example/g03101/laws.FnExactLowersOf", spec := "fnExactLowersOf", unfollowed := true, recurses := true, apart := false, narrowed := true }
def FnExactLowersOfUptoSaid : Prop := fnExactLowersOfUptoRow.holds Try.pinned (OpenSpec.upto fnExactLowersOfSpec)

/-- 'laws.FnExactCountNear', WHERE WHAT IT READS IS OF BULK AT MOST 1048576: true; the input reads as it did. -/
def fnExactCountNearUptoRow : OpenClaim := { program := "ytichenjbkclljaa", sum := "06adbb2b93fb0f4a171e04183b9ad4e80fca8628b0fd0c60b390e9a6d581ea45", func := "loop.example/g03101/laws.FnExactCountNear", spec := "fnExactCountNear", unfollowed := true, recurses := true, apart := false, narrowed := true }
def FnExactCountNearUptoSaid : Prop := fnExactCountNearUptoRow.holds Try.pinned (OpenSpec.upto fnExactCountNearSpec)

end Rows
end Go.Proofs.Ytichenjbkclljaa
