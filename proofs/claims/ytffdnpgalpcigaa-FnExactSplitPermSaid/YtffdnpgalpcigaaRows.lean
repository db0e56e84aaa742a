/-
  No cell of these rows narrows 'for every input' (looked for: loops, veiled, ifaces, maps, wideKeys, modest, calm, conditions, laid).
  DERIVED. THE GIVEN ROWS OF THIS SEAT. 6 by the template 'for every input the law returns true; each argument reads behind the call as it read before'; 0 by the template 'total and deterministic' (their statements: YtffdnpgalpcigaaTotals.lean).
  GIVEN WITH THE SEED: the statements are not yours to turn. If you find one false, say at which input.
  Laid BY PROGRAM, IN A SANDBOX (cutbox-rows.mjs): the forced cells as the released guide's own fill.sh prints them over the translation 520ae6f5d7fbf4fa… (all of the seat's roots in one cut). By AI agents, Wed Nov 11 2026. No macro, syntax, notation, axiom, sorry.
-/
import Derived.Test.YtffdnpgalpcigaaChecked
import GoSem.Claim
import GoSem.ClaimJoined
import GoSem.ClaimMapViews
import Derived.JoinedTies
import Derived.KernelRfl
namespace Go.Proofs.Ytffdnpgalpcigaa
/- THE CELL 'sum', in the pinned program and in every row, IS THE sha256 OF THE DUMP (.gsa) THAT YtffdnpgalpcigaaProg.lean LOADS. Nothing in Lean hashes anything: it is a label: what it is worth is what the hold of that sum in a sandbox is worth. -/
noncomputable def Try.pinned : Pinned := { name := "ytffdnpgalpcigaa", sum := "520ae6f5d7fbf4fa2584df1989a5d548f1cea8f97a5f1f2ffd98c15883d30c19", checked := Try.checked }
namespace Rows
def none {H : Type} : Left H := { results := [], args := [] }

/-- 'laws.FnExactSplitPerm': WHATEVER THE INPUT: true; the input reads as it did. -/
def fnExactSplitPermSpec : ChangeSpec := { name := "fnExactSplitPerm", fn := fun _ => fun
  | [d] => { results := [.lit (.bool true)], args := [d] }
  | _ => none }
def fnExactSplitPermRow : OpenClaim := { program := "ytffdnpgalpcigaa", sum := "520ae6f5d7fbf4fa2584df1989a5d548f1cea8f97a5f1f2ffd98c15883d30c19", func := "loop.example/g03101/laws.FnExactSplitPerm", spec := "fnExactSplitPerm", unfollowed := true, recurses := true, apart := false }
def FnExactSplitPermSaid : Prop := fnExactSplitPermRow.holds Try.pinned (OpenSpec.ofChange fnExactSplitPermSpec)

/-- ITS FALSE NEIGHBOUR: 'it returns false'. Refute it at one input. -/
def fnExactSplitPermWrong : ChangeSpec := { name := "fnExactSplitPerm", fn := fun _ => fun
  | [d] => { results := [.lit (.bool false)], args := [d] }
  | _ => none }
def FnExactSplitPermWrongFalsely : Prop := fnExactSplitPermRow.holds Try.pinned (OpenSpec.ofChange fnExactSplitPermWrong)

/-- 'laws.FnExactEqualInflation': WHATEVER THE INPUT: true; the input reads as it did. -/
def fnExactEqualInflationSpec : ChangeSpec := { name := "fnExactEqualInflation", fn := fun _ => fun
  | [d1, d2] => { results := [.lit (.bool true)], args := [d1, d2] }
  | _ => none }
def fnExactEqualInflationRow : OpenClaim := { program := "ytffdnpgalpcigaa", sum := "520ae6f5d7fbf4fa2584df1989a5d548f1cea8f97a5f1f2ffd98c15883d30c19", func := "loop.example/g03101/laws.FnExactEqualInflation", spec := "fnExactEqualInflation", unfollowed := true, recurses := true, apart := false }
def FnExactEqualInflationSaid : Prop := fnExactEqualInflationRow.holds Try.pinned (OpenSpec.ofChange fnExactEqualInflationSpec)

/-- ITS FALSE NEIGHBOUR: 'it returns false'. Refute it at one input. -/
def fnExactEqualInflationWrong : ChangeSpec := { name := "fnExactEqualInflation", fn := fun _ => fun
  | [d1, d2] => { results := [.lit (.bool false)], args := [d1, d2] }
  | _ => none }
def FnExactEqualInflationWrongFalsely : Prop := fnExactEqualInflationRow.holds Try.pinned (OpenSpec.ofChange fnExactEqualInflationWrong)

/-- 'laws.FnExactTreeText': WHATEVER THE INPUT: true; the input reads as it did. -/
def fnExactTreeTextSpec : ChangeSpec := { name := "fnExactTreeText", fn := fun _ => fun
  | [d] => { results := [.lit (.bool true)], args := [d] }
  | _ => none }
def fnExactTreeTextRow : OpenClaim := { program := "ytffdnpgalpcigaa", sum := "520ae6f5d7fbf4fa2584df1989a5d548f1cea8f97a5f1f2ffd98c15883d30c19", func := "loop.example/g03101/laws.FnExactTreeText", spec := "fnExactTreeText", inPlace := ["internal/abi.NoEscape", "internal/bytealg.MakeNoZero"], unfollowed := true, recurses := true, apart := false }
def FnExactTreeTextSaid : Prop := fnExactTreeTextRow.holds Try.pinned (OpenSpec.ofChange fnExactTreeTextSpec)

/-- ITS FALSE NEIGHBOUR: 'it returns false'. Refute it at one input. -/
def fnExactTreeTextWrong : ChangeSpec := { name := "fnExactTreeText", fn := fun _ => fun
  | [d] => { results := [.lit (.bool false)], args := [d] }
  | _ => none }
def FnExactTreeTextWrongFalsely : Prop := fnExactTreeTextRow.holds Try.pinned (OpenSpec.ofChange fnExactTreeTextWrong)

/-- 'laws.FnExactTreeDepth': WHATEVER THE INPUT: true; the input reads as it did. -/
def fnExactTreeDepthSpec : ChangeSpec := { name := "fnExactTreeDepth", fn := fun _ => fun
  | [d] => { results := [.lit (.bool true)], args := [d] }
  | _ => none }
def fnExactTreeDepthRow : OpenClaim := { program := "ytffdnpgalpcigaa", sum := "520ae6f5d7fbf4fa2584df1989a5d548f1cea8f97a5f1f2ffd98c15883d30c19", func := "loop.example/g03101/laws.FnExactTreeDepth", spec := "fnExactTreeDepth", unfollowed := true, recurses := true, apart := false }
def FnExactTreeDepthSaid : Prop := fnExactTreeDepthRow.holds Try.pinned (OpenSpec.ofChange fnExactTreeDepthSpec)

/-- ITS FALSE NEIGHBOUR: 'it returns false'. Refute it at one input. -/
def fnExactTreeDepthWrong : ChangeSpec := { name := "fnExactTreeDepth", fn := fun _ => fun
  | [d] => { results := [.lit (.bool false)], args := [d] }
  | _ => none }
def FnExactTreeDepthWrongFalsely : Prop := fnExactTreeDepthRow.holds Try.pinned (OpenSpec.ofChange fnExactTreeDepthWrong)

/-- 'laws.FnExactRootsIn': WHATEVER THE INPUT: true; the input reads as it did. -/
def fnExactRootsInSpec : ChangeSpec := { name := "fnExactRootsIn", fn := fun _ => fun
  | [d] => { results := [.lit (.bool true)], args := [d] }
  | _ => none }
def fnExactRootsInRow : OpenClaim := { program := "ytffdnpgalpcigaa", sum := "520ae6f5d7fbf4fa2584df1989a5d548f1cea8f97a5f1f2ffd98c15883d30c19", func := "loop.example/g03101/laws.FnExactRootsIn", spec := "fnExactRootsIn", unfollowed := true, recurses := true, apart := false }
def FnExactRootsInSaid : Prop := fnExactRootsInRow.holds Try.pinned (OpenSpec.ofChange fnExactRootsInSpec)

/-- ITS FALSE NEIGHBOUR: 'it returns false'. Refute it at one input. -/
def fnExactRootsInWrong : ChangeSpec := { name := "fnExactRootsIn", fn := fun _ => fun
  | [d] => { results := [.lit (.bool false)], args := [d] }
  | _ => none }
def FnExactRootsInWrongFalsely : Prop := fnExactRootsInRow.holds Try.pinned (OpenSpec.ofChange fnExactRootsInWrong)

/-- 'laws.FnExactIsSeparable': WHATEVER THE INPUT: true; the input reads as it did. -/
def fnExactIsSeparableSpec : ChangeSpec := { name := "fnExactIsSeparable", fn := fun _ => fun
  | [d] => { results := [.lit (.bool true)], args := [d] }
  | _ => none }
def fnExactIsSeparableRow : OpenClaim := { program := "ytffdnpgalpcigaa", sum := "520ae6f5d7fbf4fa2584df1989a5d548f1cea8f97a5f1f2ffd98c15883d30c19", func := "loop.example/g03101/laws.FnExactIsSeparable", spec := "fnExactIsSeparable", unfollowed := true, recurses := true, apart := false }
def FnExactIsSeparableSaid : Prop := fnExactIsSeparableRow.holds Try.pinned (OpenSpec.ofChange fnExactIsSeparableSpec)

/-- ITS FALSE NEIGHBOUR: 'it returns false'. Refute it at one input. -/
def fnExactIsSeparableWrong : ChangeSpec := { name := "fnExactIsSeparable", fn := fun _ => fun
  | [d] => { results := [.lit (.bool false)], args := [d] }
  | _ => none }
def FnExactIsSeparableWrongFalsely : Prop := fnExactIsSeparableRow.holds Try.pinned (OpenSpec.ofChange fnExactIsSeparableWrong)

/- THE SECOND FORM. 'bulk': how many values and letters a reading holds, each counted each time it is reached (what is shared counts as often as it is met; a slice's spare places count too). A statement '..UptoSaid' is the law's where the arguments, and the package variables that the reading takes, are together of bulk at most 1048576: NARROWER than '..Said'. Prove '..Said' where nothing that the law and all that it calls make is longer than what came in: it says more and counts as full. Else prove '..UptoSaid'. A law counts once. -/
mutual
def uptoBulk {H : Type} : DataW H → Nat
  | .lit (.string bytes) => bytes.length + 1
  | .lit _ => 1
  | .nil => 1
  | .ptr d => uptoBulk d + 1
  | .slice elems spare => uptoBulkAll elems + uptoBulkAll spare + 1
  | .agg parts => uptoBulkAll parts + 1
  | .iface _ d => uptoBulk d + 1
  | .map entries => uptoBulkEntries entries + 1
  | .held _ => 1
def uptoBulkAll {H : Type} : List (DataW H) → Nat
  | [] => 0
  | d :: r => uptoBulk d + uptoBulkAll r
def uptoBulkEntries {H : Type} : List (Lit × DataW H) → Nat
  | [] => 0
  | x :: r => uptoBulkEntry x + uptoBulkEntries r
def uptoBulkEntry {H : Type} : Lit × DataW H → Nat
  | (.string bytes, d) => bytes.length + uptoBulk d + 1
  | (_, d) => uptoBulk d + 1
 end
def uptoSmall : (H : Type) → List (DataW H) → Bool := fun _ ds => decide (uptoBulkAll ds ≤ 1048576)
def OpenSpec.upto (s : _root_.Go.ChangeSpec) : _root_.Go.OpenSpec := { _root_.Go.OpenSpec.ofChange s with cond := some uptoSmall }

/-- 'laws.FnExactSplitPerm', WHERE WHAT IT READS IS OF BULK AT MOST 1048576: true; the input reads as it did. -/
def fnExactSplitPermUptoRow : OpenClaim := { program := "ytffdnpgalpcigaa", sum := "520ae6f5d7fbf4fa2584df1989a5d548f1cea8f97a5f1f2ffd98c15883d30c19", func := "loop.example/g03101/laws.FnExactSplitPerm", spec := "fnExactSplitPerm", unfollowed := true, recurses := true, apart := false, narrowed := true }
def FnExactSplitPermUptoSaid : Prop := fnExactSplitPermUptoRow.holds Try.pinned (OpenSpec.upto fnExactSplitPermSpec)

/-- 'laws.FnExactEqualInflation', WHERE WHAT IT READS IS OF BULK AT MOST 1048576: true; the input reads as it did. -/
def fnExactEqualInflationUptoRow : OpenClaim := { program := "ytffdnpgalpcigaa", sum := "520ae6f5d7fbf4fa2584df1989a5d548f1cea8f97a5f1f2ffd98c15883d30c19", func := "loop.example/g03101/laws.FnExactEqualInflation", spec := "fnExactEqualInflation", unfollowed := true, recurses := true, apart := false, narrowed := true }
def FnExactEqualInflationUptoSaid : Prop := fnExactEqualInflationUptoRow.holds Try.pinned (OpenSpec.upto fnExactEqualInflationSpec)

/-- 'laws.FnExactTreeText', WHERE WHAT IT READS IS OF BULK AT MOST 1048576: true; the input reads as it did. -/
def fnExactTreeTextUptoRow : OpenClaim := { program := "ytffdnpgalpcigaa", sum := "520ae6f5d7fbf4fa2584df1989a5d548f1cea8f97a5f1f2ffd98c15883d30c19", func := "loop.example/g03101/laws.FnExactTreeText", spec := "fnExactTreeText", inPlace := ["internal/abi.NoEscape", "internal/bytealg.MakeNoZero"], unfollowed := true, recurses := true, apart := false, narrowed := true }
def FnExactTreeTextUptoSaid : Prop := fnExactTreeTextUptoRow.holds Try.pinned (OpenSpec.upto fnExactTreeTextSpec)

/-- 'laws.FnExactTreeDepth', WHERE WHAT IT READS IS OF BULK AT MOST 1048576: true; the input reads as it did. -/
def fnExactTreeDepthUptoRow : OpenClaim := { program := "ytffdnpgalpcigaa", sum := "520ae6f5d7fbf4fa2584df1989a5d548f1cea8f97a5f1f2ffd98c15883d30c19", func := "loop.example/g03101/laws.FnExactTreeDepth", spec := "fnExactTreeDepth", unfollowed := true, recurses := true, apart := false, narrowed := true }
def FnExactTreeDepthUptoSaid : Prop := fnExactTreeDepthUptoRow.holds Try.pinned (OpenSpec.upto fnExactTreeDepthSpec)

/-- 'laws.FnExactRootsIn', WHERE WHAT IT READS IS OF BULK AT MOST 1048576: true; the input reads as it did. -/
def fnExactRootsInUptoRow : OpenClaim := { program := "ytffdnpgalpcigaa", sum := "520ae6f5d7fbf4fa2584df1989a5d548f1cea8f97a5f1f2ffd98c15883d30c19", func := "loop.example/g03101/laws.FnExactRootsIn", spec := "fnExactRootsIn", unfollowed := true, recurses := true, apart := false, narrowed := true }
def FnExactRootsInUptoSaid : Prop := fnExactRootsInUptoRow.holds Try.pinned (OpenSpec.upto fnExactRootsInSpec)

/-- 'laws.FnExactIsSeparable', WHERE WHAT IT READS IS OF BULK AT MOST 1048576: true; the input reads as it did. -/
def fnExactIsSeparableUptoRow : OpenClaim := { program := "ytffdnpgalpcigaa", sum := "520ae6f5d7fbf4fa2584df1989a5d548f1cea8f97a5f1f2ffd98c15883d30c19", func := "loop.example/g03101/laws.FnExactIsSeparable", spec := "fnExactIsSeparable", unfollowed := true, recurses := true, apart := false, narrowed := true }
def FnExactIsSeparableUptoSaid : Prop := fnExactIsSeparableUptoRow.holds Try.pinned (OpenSpec.upto fnExactIsSeparableSpec)

end Rows
end Go.Proofs.Ytffdnpgalpcigaa
