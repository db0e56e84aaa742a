/-
  No cell of these rows narrows 'for every input' (looked for: loops, veiled, ifaces, maps, wideKeys, modest, calm, conditions, laid).
  DERIVED. THE GIVEN ROWS OF THIS SEAT. 8 by the template 'for every input the law returns true; each argument reads behind the call as it read before'; 0 by the template 'total and deterministic' (their statements: YtmgmedgdpbknmaaTotals.lean).
  GIVEN WITH THE SEED: the statements are not yours to turn. If you find one false, say at which input.
  Laid BY PROGRAM, IN A SANDBOX (cutbox-rows.mjs): the forced cells as the released guide's own fill.sh prints them over the translation c231d46f55b467b5… (all of the seat's roots in one cut). By AI agents, Wed Nov 11 2026. No macro, syntax, notation, axiom, sorry.
-/
import Derived.Test.YtmgmedgdpbknmaaChecked
import GoSem.Claim
import GoSem.ClaimJoined
import GoSem.ClaimMapViews
import Derived.JoinedTies
import Derived.KernelRfl
namespace Go.Proofs.Ytmgmedgdpbknmaa
/- THE CELL 'sum', in the pinned program and in every row, IS THE sha256 OF THE DUMP (.gsa) THAT YtmgmedgdpbknmaaProg.lean LOADS. Nothing in Lean hashes anything: it is a label: what it is worth is what the hold of that sum in a sandbox is worth. -/
noncomputable def Try.pinned : Pinned := { name := "ytmgmedgdpbknmaa", sum := "c231d46f55b467b548aa90361a133c2beabe15aa49121c8578d3c74897dee3fe", checked := Try.checked }
namespace Rows
def none {H : Type} : Left H := { results := [], args := [] }

/-- 'laws.FnExactBeforePerm': WHATEVER THE INPUT: true; the input reads as it did. -/
def fnExactBeforePermSpec : ChangeSpec := { name := "fnExactBeforePerm", fn := fun _ => fun
  | [d1, d2] => { results := [.lit (.bool true)], args := [d1, d2] }
  | _ => none }
def fnExactBeforePermRow : OpenClaim := { program := "ytmgmedgdpbknmaa", sum := "c231d46f55b467b548aa90361a133c2beabe15aa49121c8578d3c74897dee3fe", func := "loop.example/g03101/laws.FnExactBeforePerm", spec := "fnExactBeforePerm", apart := false }
def FnExactBeforePermSaid : Prop := fnExactBeforePermRow.holds Try.pinned (OpenSpec.ofChange fnExactBeforePermSpec)

/-- ITS FALSE NEIGHBOUR: 'it returns false'. Refute it at one input. -/
def fnExactBeforePermWrong : ChangeSpec := { name := "fnExactBeforePerm", fn := fun _ => fun
  | [d1, d2] => { results := [.lit (.bool false)], args := [d1, d2] }
  | _ => none }
def FnExactBeforePermWrongFalsely : Prop := fnExactBeforePermRow.holds Try.pinned (OpenSpec.ofChange fnExactBeforePermWrong)

/-- 'laws.FnExactReversePerm': WHATEVER THE INPUT: true; the input reads as it did. -/
def fnExactReversePermSpec : ChangeSpec := { name := "fnExactReversePerm", fn := fun _ => fun
  | [d] => { results := [.lit (.bool true)], args := [d] }
  | _ => none }
def fnExactReversePermRow : OpenClaim := { program := "ytmgmedgdpbknmaa", sum := "c231d46f55b467b548aa90361a133c2beabe15aa49121c8578d3c74897dee3fe", func := "loop.example/g03101/laws.FnExactReversePerm", spec := "fnExactReversePerm", apart := false }
def FnExactReversePermSaid : Prop := fnExactReversePermRow.holds Try.pinned (OpenSpec.ofChange fnExactReversePermSpec)

/-- ITS FALSE NEIGHBOUR: 'it returns false'. Refute it at one input. -/
def fnExactReversePermWrong : ChangeSpec := { name := "fnExactReversePerm", fn := fun _ => fun
  | [d] => { results := [.lit (.bool false)], args := [d] }
  | _ => none }
def FnExactReversePermWrongFalsely : Prop := fnExactReversePermRow.holds Try.pinned (OpenSpec.ofChange fnExactReversePermWrong)

/-- 'laws.FnExactComplementPerm': WHATEVER THE INPUT: true; the input reads as it did. -/
def fnExactComplementPermSpec : ChangeSpec := { name := "fnExactComplementPerm", fn := fun _ => fun
  | [d] => { results := [.lit (.bool true)], args := [d] }
  | _ => none }
def fnExactComplementPermRow : OpenClaim := { program := "ytmgmedgdpbknmaa", sum := "c231d46f55b467b548aa90361a133c2beabe15aa49121c8578d3c74897dee3fe", func := "loop.example/g03101/laws.FnExactComplementPerm", spec := "fnExactComplementPerm", apart := false }
def FnExactComplementPermSaid : Prop := fnExactComplementPermRow.holds Try.pinned (OpenSpec.ofChange fnExactComplementPermSpec)

/-- ITS FALSE NEIGHBOUR: 'it returns false'. Refute it at one input. -/
def fnExactComplementPermWrong : ChangeSpec := { name := "fnExactComplementPerm", fn := fun _ => fun
  | [d] => { results := [.lit (.bool false)], args := [d] }
  | _ => none }
def FnExactComplementPermWrongFalsely : Prop := fnExactComplementPermRow.holds Try.pinned (OpenSpec.ofChange fnExactComplementPermWrong)

/-- 'laws.FnExactSymmetryOf': WHATEVER THE INPUT: true; the input reads as it did. -/
def fnExactSymmetryOfSpec : ChangeSpec := { name := "fnExactSymmetryOf", fn := fun _ => fun
  | [d1, d2] => { results := [.lit (.bool true)], args := [d1, d2] }
  | _ => none }
def fnExactSymmetryOfRow : OpenClaim := { program := "ytmgmedgdpbknmaa", sum := "c231d46f55b467b548aa90361a133c2beabe15aa49121c8578d3c74897dee3fe", func := "loop.example/g03101/laws.FnExactSymmetryOf", spec := "fnExactSymmetryOf", unfollowed := true, recurses := true, apart := false }
def FnExactSymmetryOfSaid : Prop := fnExactSymmetryOfRow.holds Try.pinned (OpenSpec.ofChange fnExactSymmetryOfSpec)

/-- ITS FALSE NEIGHBOUR: 'it returns false'. Refute it at one input. -/
def fnExactSymmetryOfWrong : ChangeSpec := { name := "fnExactSymmetryOf", fn := fun _ => fun
  | [d1, d2] => { results := [.lit (.bool false)], args := [d1, d2] }
  | _ => none }
def FnExactSymmetryOfWrongFalsely : Prop := fnExactSymmetryOfRow.holds Try.pinned (OpenSpec.ofChange fnExactSymmetryOfWrong)

/-- 'laws.FnExactSymmetryClass': WHATEVER THE INPUT: true; the input reads as it did. -/
def fnExactSymmetryClassSpec : ChangeSpec := { name := "fnExactSymmetryClass", fn := fun _ => fun
  | [d] => { results := [.lit (.bool true)], args := [d] }
  | _ => none }
def fnExactSymmetryClassRow : OpenClaim := { program := "ytmgmedgdpbknmaa", sum := "c231d46f55b467b548aa90361a133c2beabe15aa49121c8578d3c74897dee3fe", func := "loop.example/g03101/laws.FnExactSymmetryClass", spec := "fnExactSymmetryClass", unfollowed := true, recurses := true, apart := false }
def FnExactSymmetryClassSaid : Prop := fnExactSymmetryClassRow.holds Try.pinned (OpenSpec.ofChange fnExactSymmetryClassSpec)

/-- ITS FALSE NEIGHBOUR: 'it returns false'. Refute it at one input. -/
def fnExactSymmetryClassWrong : ChangeSpec := { name := "fnExactSymmetryClass", fn := fun _ => fun
  | [d] => { results := [.lit (.bool false)], args := [d] }
  | _ => none }
def FnExactSymmetryClassWrongFalsely : Prop := fnExactSymmetryClassRow.holds Try.pinned (OpenSpec.ofChange fnExactSymmetryClassWrong)

/-- 'laws.FnExactLeastSymmetry': WHATEVER THE INPUT: true; the input reads as it did. -/
def fnExactLeastSymmetrySpec : ChangeSpec := { name := "fnExactLeastSymmetry", fn := fun _ => fun
  | [d] => { results := [.lit (.bool true)], args := [d] }
  | _ => none }
def fnExactLeastSymmetryRow : OpenClaim := { program := "ytmgmedgdpbknmaa", sum := "c231d46f55b467b548aa90361a133c2beabe15aa49121c8578d3c74897dee3fe", func := "loop.example/g03101/laws.FnExactLeastSymmetry", spec := "fnExactLeastSymmetry", unfollowed := true, recurses := true, apart := false }
def FnExactLeastSymmetrySaid : Prop := fnExactLeastSymmetryRow.holds Try.pinned (OpenSpec.ofChange fnExactLeastSymmetrySpec)

/-- ITS FALSE NEIGHBOUR: 'it returns false'. Refute it at one input. -/
def fnExactLeastSymmetryWrong : ChangeSpec := { name := "fnExactLeastSymmetry", fn := fun _ => fun
  | [d] => { results := [.lit (.bool false)], args := [d] }
  | _ => none }
def FnExactLeastSymmetryWrongFalsely : Prop := fnExactLeastSymmetryRow.holds Try.pinned (OpenSpec.ofChange fnExactLeastSymmetryWrong)

/-- 'laws.FnExactIsInvolution': WHATEVER THE INPUT: true; the input reads as it did. -/
def fnExactIsInvolutionSpec : ChangeSpec := { name := "fnExactIsInvolution", fn := fun _ => fun
  | [d] => { results := [.lit (.bool true)], args := [d] }
  | _ => none }
def fnExactIsInvolutionRow : OpenClaim := { program := "ytmgmedgdpbknmaa", sum := "c231d46f55b467b548aa90361a133c2beabe15aa49121c8578d3c74897dee3fe", func := "loop.example/g03101/laws.FnExactIsInvolution", spec := "fnExactIsInvolution", apart := false }
def FnExactIsInvolutionSaid : Prop := fnExactIsInvolutionRow.holds Try.pinned (OpenSpec.ofChange fnExactIsInvolutionSpec)

/-- ITS FALSE NEIGHBOUR: 'it returns false'. Refute it at one input. -/
def fnExactIsInvolutionWrong : ChangeSpec := { name := "fnExactIsInvolution", fn := fun _ => fun
  | [d] => { results := [.lit (.bool false)], args := [d] }
  | _ => none }
def FnExactIsInvolutionWrongFalsely : Prop := fnExactIsInvolutionRow.holds Try.pinned (OpenSpec.ofChange fnExactIsInvolutionWrong)

/-- 'laws.FnExactOrderPerms': WHATEVER THE INPUT: true; the input reads as it did. -/
def fnExactOrderPermsSpec : ChangeSpec := { name := "fnExactOrderPerms", fn := fun _ => fun
  | [d] => { results := [.lit (.bool true)], args := [d] }
  | _ => none }
def fnExactOrderPermsRow : OpenClaim := { program := "ytmgmedgdpbknmaa", sum := "c231d46f55b467b548aa90361a133c2beabe15aa49121c8578d3c74897dee3fe", func := "loop.example/g03101/laws.FnExactOrderPerms", spec := "fnExactOrderPerms", unfollowed := true, recurses := true, apart := false }
def FnExactOrderPermsSaid : Prop := fnExactOrderPermsRow.holds Try.pinned (OpenSpec.ofChange fnExactOrderPermsSpec)

/-- ITS FALSE NEIGHBOUR: 'it returns false'. Refute it at one input. -/
def fnExactOrderPermsWrong : ChangeSpec := { name := "fnExactOrderPerms", fn := fun _ => fun
  | [d] => { results := [.lit (.bool false)], args := [d] }
  | _ => none }
def FnExactOrderPermsWrongFalsely : Prop := fnExactOrderPermsRow.holds Try.pinned (OpenSpec.ofChange fnExactOrderPermsWrong)

/- THE SECOND FORM. 'bulk': how many values and letters a reading holds, each counted each time it is reached (what is shared counts as often as it is met; a slice's spare places count too). A statement '..UptoSaid' is the law's where the arguments, and the package variables that the reading takes, are together of bulk at most 1048576: NARROWER than '..Said'. Prove '..Said' where nothing that the law and all that it calls make is longer than what came in: it says more and counts as full. Else prove '..UptoSaid'. A law counts once. -/
mutual
def uptoBulk {H : Type} : DataW H → Nat
  | .lit (.string bytes) => bytes.length + 1
  | .lit _ => 1
  | .nil => 1
  | .ptr d => uptoBulk d + 1
  | .slice elems spare => uptoBulkAll elems + uptoBulkAll spare + 1
  | .agg parts => uptoBulkAll parts + 1
  | .iface _ d => uptoBulk d + 1
  | .map entries => uptoBulkEntries entries + 1
  | .held _ => 1
def uptoBulkAll {H : Type} : List (DataW H) → Nat
  | [] => 0
  | d :: r => uptoBulk d + uptoBulkAll r
def uptoBulkEntries {H : Type} : List (Lit × DataW H) → Nat
  | [] => 0
  | x :: r => uptoBulkEntry x + uptoBulkEntries r
def uptoBulkEntry {H : Type} : Lit × DataW H → Nat
  | (.string bytes, d) => bytes.length + uptoBulk d + 1
  | (_, d) => uptoBulk d + 1
 end
def uptoSmall : (H : Type) → List (DataW H) → Bool := fun _ ds => decide (uptoBulkAll ds ≤ 1048576)
def OpenSpec.upto (s : _root_.Go.ChangeSpec) : _root_.Go.OpenSpec := { _root_.Go.OpenSpec.ofChange s with cond := some uptoSmall }

/-- 'laws.FnExactBeforePerm', WHERE WHAT IT READS IS OF BULK AT MOST 1048576: true; the input reads as it did. -/
def fnExactBeforePermUptoRow : OpenClaim := { program := "ytmgmedgdpbknmaa", sum := "c231d46f55b467b548aa90361a133c2beabe15aa49121c8578d3c74897dee3fe", func := "loop.example/g03101/laws.FnExactBeforePerm", spec := "fnExactBeforePerm", apart := false, narrowed := true }
def FnExactBeforePermUptoSaid : Prop := fnExactBeforePermUptoRow.holds Try.pinned (OpenSpec.upto fnExactBeforePermSpec)

/-- 'laws.FnExactReversePerm', WHERE WHAT IT READS IS OF BULK AT MOST 1048576: true; the input reads as it did. -/
def fnExactReversePermUptoRow : OpenClaim := { program := "ytmgmedgdpbknmaa", sum := "c231d46f55b467b548aa90361a133c2beabe15aa49121c8578d3c74897dee3fe", func := "loop.example/g03101/laws.FnExactReversePerm", spec := "fnExactReversePerm", apart := false, narrowed := true }
def FnExactReversePermUptoSaid : Prop := fnExactReversePermUptoRow.holds Try.pinned (OpenSpec.upto fnExactReversePermSpec)

/-- 'laws.FnExactComplementPerm', WHERE WHAT IT READS IS OF BULK AT MOST 1048576: true; the input reads as it did. -/
def fnExactComplementPermUptoRow : OpenClaim := { program := "ytmgmedgdpbknmaa", sum := "c231d46f55b467b548aa90361a133c2beabe15aa49121c8578d3c74897dee3fe", func := "loop.example/g03101/laws.FnExactComplementPerm", spec := "fnExactComplementPerm", apart := false, narrowed := true }
def FnExactComplementPermUptoSaid : Prop := fnExactComplementPermUptoRow.holds Try.pinned (OpenSpec.upto fnExactComplementPermSpec)

/-- 'laws.FnExactSymmetryOf', WHERE WHAT IT READS IS OF BULK AT MOST 1048576: true; the input reads as it did. -/
def fnExactSymmetryOfUptoRow : OpenClaim := { program := "ytmgmedgdpbknmaa", sum := "c231d46f55b467b548aa90361a133c2beabe15aa49121c8578d3c74897dee3fe", func := "loop.example/g03101/laws.FnExactSymmetryOf", spec := "fnExactSymmetryOf", unfollowed := true, recurses := true, apart := false, narrowed := true }
def FnExactSymmetryOfUptoSaid : Prop := fnExactSymmetryOfUptoRow.holds Try.pinned (OpenSpec.upto fnExactSymmetryOfSpec)

/-- 'laws.FnExactSymmetryClass', WHERE WHAT IT READS IS OF BULK AT MOST 1048576: true; the input reads as it did. -/
def fnExactSymmetryClassUptoRow : OpenClaim := { program := "ytmgmedgdpbknmaa", sum := "c231d46f55b467b548aa90361a133c2beabe15aa49121c8578d3c74897dee3fe", func := "loop.example/g03101/laws.FnExactSymmetryClass", spec := "fnExactSymmetryClass", unfollowed := true, recurses := true, apart := false, narrowed := true }
def FnExactSymmetryClassUptoSaid : Prop := fnExactSymmetryClassUptoRow.holds Try.pinned (OpenSpec.upto fnExactSymmetryClassSpec)

/-- 'laws.FnExactLeastSymmetry', WHERE WHAT IT READS IS OF BULK AT MOST 1048576: true; the input reads as it did. -/
def fnExactLeastSymmetryUptoRow : OpenClaim := { program := "ytmgmedgdpbknmaa", sum := "c231d46f55b467b548aa90361a133c2beabe15aa49121c8578d3c74897dee3fe", func := "loop.example/g03101/laws.FnExactLeastSymmetry", spec := "fnExactLeastSymmetry", unfollowed := true, recurses := true, apart := false, narrowed := true }
def FnExactLeastSymmetryUptoSaid : Prop := fnExactLeastSymmetryUptoRow.holds Try.pinned (OpenSpec.upto fnExactLeastSymmetrySpec)

/-- 'laws.FnExactIsInvolution', WHERE WHAT IT READS IS OF BULK AT MOST 1048576: true; the input reads as it did. -/
def fnExactIsInvolutionUptoRow : OpenClaim := { program := "ytmgmedgdpbknmaa", sum := "c231d46f55b467b548aa90361a133c2beabe15aa49121c8578d3c74897dee3fe", func := "loop.example/g03101/laws.FnExactIsInvolution", spec := "fnExactIsInvolution", apart := false, narrowed := true }
def FnExactIsInvolutionUptoSaid : Prop := fnExactIsInvolutionUptoRow.holds Try.pinned (OpenSpec.upto fnExactIsInvolutionSpec)

/-- 'laws.FnExactOrderPerms', WHERE WHAT IT READS IS OF BULK AT MOST 1048576: true; the input reads as it did. -/
def fnExactOrderPermsUptoRow : OpenClaim := { program := "ytmgmedgdpbknmaa", sum := "c231d46f55b467b548aa90361a133c2beabe15aa49121c8578d3c74897dee3fe", func := "loop.example/g03101/laws.FnExactOrderPerms", spec := "fnExactOrderPerms", unfollowed := true, recurses := true, apart := false, narrowed := true }
def FnExactOrderPermsUptoSaid : Prop := fnExactOrderPermsUptoRow.holds Try.pinned (OpenSpec.upto fnExactOrderPermsSpec)

end Rows
end Go.Proofs.Ytmgmedgdpbknmaa
