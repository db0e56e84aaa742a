/-
  No cell of these rows narrows 'for every input' (looked for: loops, veiled, ifaces, maps, wideKeys, modest, calm, conditions, laid).
  DERIVED. THE GIVEN ROWS OF THIS SEAT. 7 by the template 'for every input the law returns true; each argument reads behind the call as it read before'; 0 by the template 'total and deterministic' (their statements: YtplchjeamooliaaTotals.lean).
  GIVEN WITH THE SEED: the statements are not yours to turn. If you find one false, say at which input.
  Laid BY PROGRAM, IN A SANDBOX (cutbox-rows.mjs): the forced cells as the released guide's own fill.sh prints them over the translation b9f89ebaa36f7ed8… (all of the seat's roots in one cut). By AI agents, Wed Nov 11 2026. No macro, syntax, notation, axiom, sorry.
-/
import Derived.Test.YtplchjeamooliaaChecked
import GoSem.Claim
import GoSem.ClaimJoined
import GoSem.ClaimMapViews
import Derived.JoinedTies
import Derived.KernelRfl
namespace Go.Proofs.Ytplchjeamooliaa
/- THE CELL 'sum', in the pinned program and in every row, IS THE sha256 OF THE DUMP (.gsa) THAT YtplchjeamooliaaProg.lean LOADS. Nothing in Lean hashes anything: it is a label: what it is worth is what the hold of that sum in a sandbox is worth. -/
noncomputable def Try.pinned : Pinned := { name := "ytplchjeamooliaa", sum := "b9f89ebaa36f7ed8a80cbf6a1697a1042c91d08182001811e49f718aaf31b4d0", checked := Try.checked }
namespace Rows
def none {H : Type} : Left H := { results := [], args := [] }

/-- 'laws.FnExactIsBasis': WHATEVER THE INPUT: true; the input reads as it did. -/
def fnExactIsBasisSpec : ChangeSpec := { name := "fnExactIsBasis", fn := fun _ => fun
  | [d] => { results := [.lit (.bool true)], args := [d] }
  | _ => none }
def fnExactIsBasisRow : OpenClaim := { program := "ytplchjeamooliaa", sum := "b9f89ebaa36f7ed8a80cbf6a1697a1042c91d08182001811e49f718aaf31b4d0", func := "loop.example/g03101/laws.FnExactIsBasis", spec := "fnExactIsBasis", unfollowed := true, recurses := true, apart := false }
def FnExactIsBasisSaid : Prop := fnExactIsBasisRow.holds Try.pinned (OpenSpec.ofChange fnExactIsBasisSpec)

/-- ITS FALSE NEIGHBOUR: 'it returns false'. Refute it at one input. -/
def fnExactIsBasisWrong : ChangeSpec := { name := "fnExactIsBasis", fn := fun _ => fun
  | [d] => { results := [.lit (.bool false)], args := [d] }
  | _ => none }
def FnExactIsBasisWrongFalsely : Prop := fnExactIsBasisRow.holds Try.pinned (OpenSpec.ofChange fnExactIsBasisWrong)

/-- 'laws.FnExactMakeBasis': WHATEVER THE INPUT: true; the input reads as it did. -/
def fnExactMakeBasisSpec : ChangeSpec := { name := "fnExactMakeBasis", fn := fun _ => fun
  | [d] => { results := [.lit (.bool true)], args := [d] }
  | _ => none }
def fnExactMakeBasisRow : OpenClaim := { program := "ytplchjeamooliaa", sum := "b9f89ebaa36f7ed8a80cbf6a1697a1042c91d08182001811e49f718aaf31b4d0", func := "loop.example/g03101/laws.FnExactMakeBasis", spec := "fnExactMakeBasis", unfollowed := true, recurses := true, apart := false }
def FnExactMakeBasisSaid : Prop := fnExactMakeBasisRow.holds Try.pinned (OpenSpec.ofChange fnExactMakeBasisSpec)

/-- ITS FALSE NEIGHBOUR: 'it returns false'. Refute it at one input. -/
def fnExactMakeBasisWrong : ChangeSpec := { name := "fnExactMakeBasis", fn := fun _ => fun
  | [d] => { results := [.lit (.bool false)], args := [d] }
  | _ => none }
def FnExactMakeBasisWrongFalsely : Prop := fnExactMakeBasisRow.holds Try.pinned (OpenSpec.ofChange fnExactMakeBasisWrong)

/-- 'laws.FnExactInClass': WHATEVER THE INPUT: true; the input reads as it did. -/
def fnExactInClassSpec : ChangeSpec := { name := "fnExactInClass", fn := fun _ => fun
  | [d1, d2] => { results := [.lit (.bool true)], args := [d1, d2] }
  | _ => none }
def fnExactInClassRow : OpenClaim := { program := "ytplchjeamooliaa", sum := "b9f89ebaa36f7ed8a80cbf6a1697a1042c91d08182001811e49f718aaf31b4d0", func := "loop.example/g03101/laws.FnExactInClass", spec := "fnExactInClass", unfollowed := true, recurses := true, apart := false }
def FnExactInClassSaid : Prop := fnExactInClassRow.holds Try.pinned (OpenSpec.ofChange fnExactInClassSpec)

/-- ITS FALSE NEIGHBOUR: 'it returns false'. Refute it at one input. -/
def fnExactInClassWrong : ChangeSpec := { name := "fnExactInClass", fn := fun _ => fun
  | [d1, d2] => { results := [.lit (.bool false)], args := [d1, d2] }
  | _ => none }
def FnExactInClassWrongFalsely : Prop := fnExactInClassRow.holds Try.pinned (OpenSpec.ofChange fnExactInClassWrong)

/-- 'laws.FnExactClassOf': WHATEVER THE INPUT: true; the input reads as it did. -/
def fnExactClassOfSpec : ChangeSpec := { name := "fnExactClassOf", fn := fun _ => fun
  | [d1, d2] => { results := [.lit (.bool true)], args := [d1, d2] }
  | _ => none }
def fnExactClassOfRow : OpenClaim := { program := "ytplchjeamooliaa", sum := "b9f89ebaa36f7ed8a80cbf6a1697a1042c91d08182001811e49f718aaf31b4d0", func := "loop.example/g03101/laws.FnExactClassOf", spec := "fnExactClassOf", unfollowed := true, recurses := true, apart := false }
def FnExactClassOfSaid : Prop := fnExactClassOfRow.holds Try.pinned (OpenSpec.ofChange fnExactClassOfSpec)

/-- ITS FALSE NEIGHBOUR: 'it returns false'. Refute it at one input. -/
def fnExactClassOfWrong : ChangeSpec := { name := "fnExactClassOf", fn := fun _ => fun
  | [d1, d2] => { results := [.lit (.bool false)], args := [d1, d2] }
  | _ => none }
def FnExactClassOfWrongFalsely : Prop := fnExactClassOfRow.holds Try.pinned (OpenSpec.ofChange fnExactClassOfWrong)

/-- 'laws.FnExactClassCounts': WHATEVER THE INPUT: true; the input reads as it did. -/
def fnExactClassCountsSpec : ChangeSpec := { name := "fnExactClassCounts", fn := fun _ => fun
  | [d1, d2] => { results := [.lit (.bool true)], args := [d1, d2] }
  | _ => none }
def fnExactClassCountsRow : OpenClaim := { program := "ytplchjeamooliaa", sum := "b9f89ebaa36f7ed8a80cbf6a1697a1042c91d08182001811e49f718aaf31b4d0", func := "loop.example/g03101/laws.FnExactClassCounts", spec := "fnExactClassCounts", unfollowed := true, recurses := true, apart := false }
def FnExactClassCountsSaid : Prop := fnExactClassCountsRow.holds Try.pinned (OpenSpec.ofChange fnExactClassCountsSpec)

/-- ITS FALSE NEIGHBOUR: 'it returns false'. Refute it at one input. -/
def fnExactClassCountsWrong : ChangeSpec := { name := "fnExactClassCounts", fn := fun _ => fun
  | [d1, d2] => { results := [.lit (.bool false)], args := [d1, d2] }
  | _ => none }
def FnExactClassCountsWrongFalsely : Prop := fnExactClassCountsRow.holds Try.pinned (OpenSpec.ofChange fnExactClassCountsWrong)

/-- 'laws.FnExactBasisText': WHATEVER THE INPUT: true; the input reads as it did. -/
def fnExactBasisTextSpec : ChangeSpec := { name := "fnExactBasisText", fn := fun _ => fun
  | [d] => { results := [.lit (.bool true)], args := [d] }
  | _ => none }
def fnExactBasisTextRow : OpenClaim := { program := "ytplchjeamooliaa", sum := "b9f89ebaa36f7ed8a80cbf6a1697a1042c91d08182001811e49f718aaf31b4d0", func := "loop.example/g03101/laws.FnExactBasisText", spec := "fnExactBasisText", inPlace := ["internal/abi.NoEscape", "internal/bytealg.MakeNoZero"], unfollowed := true, recurses := true, apart := false }
def FnExactBasisTextSaid : Prop := fnExactBasisTextRow.holds Try.pinned (OpenSpec.ofChange fnExactBasisTextSpec)

/-- ITS FALSE NEIGHBOUR: 'it returns false'. Refute it at one input. -/
def fnExactBasisTextWrong : ChangeSpec := { name := "fnExactBasisText", fn := fun _ => fun
  | [d] => { results := [.lit (.bool false)], args := [d] }
  | _ => none }
def FnExactBasisTextWrongFalsely : Prop := fnExactBasisTextRow.holds Try.pinned (OpenSpec.ofChange fnExactBasisTextWrong)

/-- 'laws.FnExactBasisUpTo': WHATEVER THE INPUT: true; the input reads as it did. -/
def fnExactBasisUpToSpec : ChangeSpec := { name := "fnExactBasisUpTo", fn := fun _ => fun
  | [d1, d2] => { results := [.lit (.bool true)], args := [d1, d2] }
  | _ => none }
def fnExactBasisUpToRow : OpenClaim := { program := "ytplchjeamooliaa", sum := "b9f89ebaa36f7ed8a80cbf6a1697a1042c91d08182001811e49f718aaf31b4d0", func := "loop.example/g03101/laws.FnExactBasisUpTo", spec := "fnExactBasisUpTo", unfollowed := true, recurses := true, apart := false }
def FnExactBasisUpToSaid : Prop := fnExactBasisUpToRow.holds Try.pinned (OpenSpec.ofChange fnExactBasisUpToSpec)

/-- ITS FALSE NEIGHBOUR: 'it returns false'. Refute it at one input. -/
def fnExactBasisUpToWrong : ChangeSpec := { name := "fnExactBasisUpTo", fn := fun _ => fun
  | [d1, d2] => { results := [.lit (.bool false)], args := [d1, d2] }
  | _ => none }
def FnExactBasisUpToWrongFalsely : Prop := fnExactBasisUpToRow.holds Try.pinned (OpenSpec.ofChange fnExactBasisUpToWrong)

/- THE SECOND FORM. 'bulk': how many values and letters a reading holds, each counted each time it is reached (what is shared counts as often as it is met; a slice's spare places count too). A statement '..UptoSaid' is the law's where the arguments, and the package variables that the reading takes, are together of bulk at most 1048576: NARROWER than '..Said'. Prove '..Said' where nothing that the law and all that it calls make is longer than what came in: it says more and counts as full. Else prove '..UptoSaid'. A law counts once. -/
mutual
def uptoBulk {H : Type} : DataW H → Nat
  | .lit (.string bytes) => bytes.length + 1
  | .lit _ => 1
  | .nil => 1
  | .ptr d => uptoBulk d + 1
  | .slice elems spare => uptoBulkAll elems + uptoBulkAll spare + 1
  | .agg parts => uptoBulkAll parts + 1
  | .iface _ d => uptoBulk d + 1
  | .map entries => uptoBulkEntries entries + 1
  | .held _ => 1
def uptoBulkAll {H : Type} : List (DataW H) → Nat
  | [] => 0
  | d :: r => uptoBulk d + uptoBulkAll r
def uptoBulkEntries {H : Type} : List (Lit × DataW H) → Nat
  | [] => 0
  | x :: r => uptoBulkEntry x + uptoBulkEntries r
def uptoBulkEntry {H : Type} : Lit × DataW H → Nat
  | (.string bytes, d) => bytes.length + uptoBulk d + 1
  | (_, d) => uptoBulk d + 1
 end
def uptoSmall : (H : Type) → List (DataW H) → Bool := fun _ ds => decide (uptoBulkAll ds ≤ 1048576)
def OpenSpec.upto (s : _root_.Go.ChangeSpec) : _root_.Go.OpenSpec := { _root_.Go.OpenSpec.ofChange s with cond := some uptoSmall }

/-- 'laws.FnExactIsBasis', WHERE WHAT IT READS IS OF BULK AT MOST 1048576: true; the input reads as it did. -/
def fnExactIsBasisUptoRow : OpenClaim := { program := "ytplchjeamooliaa", sum := "b9f89ebaa36f7ed8a80cbf6a1697a1042c91d08182001811e49f718aaf31b4d0", func := "loop.example/g03101/laws.FnExactIsBasis", spec := "fnExactIsBasis", unfollowed := true, recurses := true, apart := false, narrowed := true }
def FnExactIsBasisUptoSaid : Prop := fnExactIsBasisUptoRow.holds Try.pinned (OpenSpec.upto fnExactIsBasisSpec)

/-- 'laws.FnExactMakeBasis', WHERE WHAT IT READS IS OF BULK AT MOST 1048576: true; the input reads as it did. -/
def fnExactMakeBasisUptoRow : OpenClaim := { program := "ytplchjeamooliaa", sum := "b9f89ebaa36f7ed8a80cbf6a1697a1042c91d08182001811e49f718aaf31b4d0", func := "loop.example/g03101/laws.FnExactMakeBasis", spec := "fnExactMakeBasis", unfollowed := true, recurses := true, apart := false, narrowed := true }
def FnExactMakeBasisUptoSaid : Prop := fnExactMakeBasisUptoRow.holds Try.pinned (OpenSpec.upto fnExactMakeBasisSpec)

/-- 'laws.FnExactInClass', WHERE WHAT IT READS IS OF BULK AT MOST 1048576: true; the input reads as it did. -/
def fnExactInClassUptoRow : OpenClaim := { program := "ytplchjeamooliaa", sum := "b9f89ebaa36f7ed8a80cbf6a1697a1042c91d08182001811e49f718aaf31b4d0", func := "loop.example/g03101/laws.FnExactInClass", spec := "fnExactInClass", unfollowed := true, recurses := true, apart := false, narrowed := true }
def FnExactInClassUptoSaid : Prop := fnExactInClassUptoRow.holds Try.pinned (OpenSpec.upto fnExactInClassSpec)

/-- 'laws.FnExactClassOf', WHERE WHAT IT READS IS OF BULK AT MOST 1048576: true; the input reads as it did. -/
def fnExactClassOfUptoRow : OpenClaim := { program := "ytplchjeamooliaa", sum := "b9f89ebaa36f7ed8a80cbf6a1697a1042c91d08182001811e49f718aaf31b4d0", func := "loop.example/g03101/laws.FnExactClassOf", spec := "fnExactClassOf", unfollowed := true, recurses := true, apart := false, narrowed := true }
def FnExactClassOfUptoSaid : Prop := fnExactClassOfUptoRow.holds Try.pinned (OpenSpec.upto fnExactClassOfSpec)

/-- 'laws.FnExactClassCounts', WHERE WHAT IT READS IS OF BULK AT MOST 1048576: true; the input reads as it did. -/
def fnExactClassCountsUptoRow : OpenClaim := { program := "ytplchjeamooliaa", sum := "b9f89ebaa36f7ed8a80cbf6a1697a1042c91d08182001811e49f718aaf31b4d0", func := "loop.example/g03101/laws.FnExactClassCounts", spec := "fnExactClassCounts", unfollowed := true, recurses := true, apart := false, narrowed := true }
def FnExactClassCountsUptoSaid : Prop := fnExactClassCountsUptoRow.holds Try.pinned (OpenSpec.upto fnExactClassCountsSpec)

/-- 'laws.FnExactBasisText', WHERE WHAT IT READS IS OF BULK AT MOST 1048576: true; the input reads as it did. -/
def fnExactBasisTextUptoRow : OpenClaim := { program := "ytplchjeamooliaa", sum := "b9f89ebaa36f7ed8a80cbf6a1697a1042c91d08182001811e49f718aaf31b4d0", func := "loop.example/g03101/laws.FnExactBasisText", spec := "fnExactBasisText", inPlace := ["internal/abi.NoEscape", "internal/bytealg.MakeNoZero"], unfollowed := true, recurses := true, apart := false, narrowed := true }
def FnExactBasisTextUptoSaid : Prop := fnExactBasisTextUptoRow.holds Try.pinned (OpenSpec.upto fnExactBasisTextSpec)

/-- 'laws.FnExactBasisUpTo', WHERE WHAT IT READS IS OF BULK AT MOST 1048576: true; the input reads as it did. -/
def fnExactBasisUpToUptoRow : OpenClaim := { program := "ytplchjeamooliaa", sum := "b9f89ebaa36f7ed8a80cbf6a1697a1042c91d08182001811e49f718aaf31b4d0", func := "loop.example/g03101/laws.FnExactBasisUpTo", spec := "fnExactBasisUpTo", unfollowed := true, recurses := true, apart := false, narrowed := true }
def FnExactBasisUpToUptoSaid : Prop := fnExactBasisUpToUptoRow.holds Try.pinned (OpenSpec.upto fnExactBasisUpToSpec)

end Rows
end Go.Proofs.Ytplchjeamooliaa
