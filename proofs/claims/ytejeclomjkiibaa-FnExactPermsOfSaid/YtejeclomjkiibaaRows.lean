/-
  No cell of these rows narrows 'for every input' (looked for: loops, veiled, ifaces, maps, wideKeys, modest, calm, conditions, laid).
  DERIVED. THE GIVEN ROWS OF THIS SEAT. 9 by the template 'for every input the law returns true; each argument reads behind the call as it read before'; 0 by the template 'total and deterministic' (their statements: YtejeclomjkiibaaTotals.lean).
  GIVEN WITH THE SEED: the statements are not yours to turn. If you find one false, say at which input.
  Laid BY PROGRAM, IN A SANDBOX (cutbox-rows.mjs): the forced cells as the released guide's own fill.sh prints them over the translation 2f7abb75bfdab611… (all of the seat's roots in one cut). By AI agents, Wed Nov 11 2026. No macro, syntax, notation, axiom, sorry.
-/
import Derived.Test.YtejeclomjkiibaaChecked
import GoSem.Claim
import GoSem.ClaimJoined
import GoSem.ClaimMapViews
import Derived.JoinedTies
import Derived.KernelRfl
namespace Go.Proofs.Ytejeclomjkiibaa
/- THE CELL 'sum', in the pinned program and in every row, IS THE sha256 OF THE DUMP (.gsa) THAT YtejeclomjkiibaaProg.lean LOADS. Nothing in Lean hashes anything: it is a label: what it is worth is what the hold of that sum in a sandbox is worth. -/
noncomputable def Try.pinned : Pinned := { name := "ytejeclomjkiibaa", sum := "2f7abb75bfdab611969b4a831eb77d561e68f98009f82db710e48601b172f8bd", checked := Try.checked }
namespace Rows
def none {H : Type} : Left H := { results := [], args := [] }

/-- 'laws.FnExactIsPerm': WHATEVER THE INPUT: true; the input reads as it did. -/
def fnExactIsPermSpec : ChangeSpec := { name := "fnExactIsPerm", fn := fun _ => fun
  | [d] => { results := [.lit (.bool true)], args := [d] }
  | _ => none }
def fnExactIsPermRow : OpenClaim := { program := "ytejeclomjkiibaa", sum := "2f7abb75bfdab611969b4a831eb77d561e68f98009f82db710e48601b172f8bd", func := "loop.example/g03101/laws.FnExactIsPerm", spec := "fnExactIsPerm", apart := false }
def FnExactIsPermSaid : Prop := fnExactIsPermRow.holds Try.pinned (OpenSpec.ofChange fnExactIsPermSpec)

/-- ITS FALSE NEIGHBOUR: 'it returns false'. Refute it at one input. -/
def fnExactIsPermWrong : ChangeSpec := { name := "fnExactIsPerm", fn := fun _ => fun
  | [d] => { results := [.lit (.bool false)], args := [d] }
  | _ => none }
def FnExactIsPermWrongFalsely : Prop := fnExactIsPermRow.holds Try.pinned (OpenSpec.ofChange fnExactIsPermWrong)

/-- 'laws.FnExactIdentityPerm': WHATEVER THE INPUT: true; the input reads as it did. -/
def fnExactIdentityPermSpec : ChangeSpec := { name := "fnExactIdentityPerm", fn := fun _ => fun
  | [d] => { results := [.lit (.bool true)], args := [d] }
  | _ => none }
def fnExactIdentityPermRow : OpenClaim := { program := "ytejeclomjkiibaa", sum := "2f7abb75bfdab611969b4a831eb77d561e68f98009f82db710e48601b172f8bd", func := "loop.example/g03101/laws.FnExactIdentityPerm", spec := "fnExactIdentityPerm", apart := false }
def FnExactIdentityPermSaid : Prop := fnExactIdentityPermRow.holds Try.pinned (OpenSpec.ofChange fnExactIdentityPermSpec)

/-- ITS FALSE NEIGHBOUR: 'it returns false'. Refute it at one input. -/
def fnExactIdentityPermWrong : ChangeSpec := { name := "fnExactIdentityPerm", fn := fun _ => fun
  | [d] => { results := [.lit (.bool false)], args := [d] }
  | _ => none }
def FnExactIdentityPermWrongFalsely : Prop := fnExactIdentityPermRow.holds Try.pinned (OpenSpec.ofChange fnExactIdentityPermWrong)

/-- 'laws.FnExactInversePerm': WHATEVER THE INPUT: true; the input reads as it did. -/
def fnExactInversePermSpec : ChangeSpec := { name := "fnExactInversePerm", fn := fun _ => fun
  | [d] => { results := [.lit (.bool true)], args := [d] }
  | _ => none }
def fnExactInversePermRow : OpenClaim := { program := "ytejeclomjkiibaa", sum := "2f7abb75bfdab611969b4a831eb77d561e68f98009f82db710e48601b172f8bd", func := "loop.example/g03101/laws.FnExactInversePerm", spec := "fnExactInversePerm", apart := false }
def FnExactInversePermSaid : Prop := fnExactInversePermRow.holds Try.pinned (OpenSpec.ofChange fnExactInversePermSpec)

/-- ITS FALSE NEIGHBOUR: 'it returns false'. Refute it at one input. -/
def fnExactInversePermWrong : ChangeSpec := { name := "fnExactInversePerm", fn := fun _ => fun
  | [d] => { results := [.lit (.bool false)], args := [d] }
  | _ => none }
def FnExactInversePermWrongFalsely : Prop := fnExactInversePermRow.holds Try.pinned (OpenSpec.ofChange fnExactInversePermWrong)

/-- 'laws.FnExactComposePerm': WHATEVER THE INPUT: true; the input reads as it did. -/
def fnExactComposePermSpec : ChangeSpec := { name := "fnExactComposePerm", fn := fun _ => fun
  | [d1, d2] => { results := [.lit (.bool true)], args := [d1, d2] }
  | _ => none }
def fnExactComposePermRow : OpenClaim := { program := "ytejeclomjkiibaa", sum := "2f7abb75bfdab611969b4a831eb77d561e68f98009f82db710e48601b172f8bd", func := "loop.example/g03101/laws.FnExactComposePerm", spec := "fnExactComposePerm", apart := false }
def FnExactComposePermSaid : Prop := fnExactComposePermRow.holds Try.pinned (OpenSpec.ofChange fnExactComposePermSpec)

/-- ITS FALSE NEIGHBOUR: 'it returns false'. Refute it at one input. -/
def fnExactComposePermWrong : ChangeSpec := { name := "fnExactComposePerm", fn := fun _ => fun
  | [d1, d2] => { results := [.lit (.bool false)], args := [d1, d2] }
  | _ => none }
def FnExactComposePermWrongFalsely : Prop := fnExactComposePermRow.holds Try.pinned (OpenSpec.ofChange fnExactComposePermWrong)

/-- 'laws.FnExactBeforePerm': WHATEVER THE INPUT: true; the input reads as it did. -/
def fnExactBeforePermSpec : ChangeSpec := { name := "fnExactBeforePerm", fn := fun _ => fun
  | [d1, d2] => { results := [.lit (.bool true)], args := [d1, d2] }
  | _ => none }
def fnExactBeforePermRow : OpenClaim := { program := "ytejeclomjkiibaa", sum := "2f7abb75bfdab611969b4a831eb77d561e68f98009f82db710e48601b172f8bd", func := "loop.example/g03101/laws.FnExactBeforePerm", spec := "fnExactBeforePerm", apart := false }
def FnExactBeforePermSaid : Prop := fnExactBeforePermRow.holds Try.pinned (OpenSpec.ofChange fnExactBeforePermSpec)

/-- ITS FALSE NEIGHBOUR: 'it returns false'. Refute it at one input. -/
def fnExactBeforePermWrong : ChangeSpec := { name := "fnExactBeforePerm", fn := fun _ => fun
  | [d1, d2] => { results := [.lit (.bool false)], args := [d1, d2] }
  | _ => none }
def FnExactBeforePermWrongFalsely : Prop := fnExactBeforePermRow.holds Try.pinned (OpenSpec.ofChange fnExactBeforePermWrong)

/-- 'laws.FnExactPatternOf': WHATEVER THE INPUT: true; the input reads as it did. -/
def fnExactPatternOfSpec : ChangeSpec := { name := "fnExactPatternOf", fn := fun _ => fun
  | [d] => { results := [.lit (.bool true)], args := [d] }
  | _ => none }
def fnExactPatternOfRow : OpenClaim := { program := "ytejeclomjkiibaa", sum := "2f7abb75bfdab611969b4a831eb77d561e68f98009f82db710e48601b172f8bd", func := "loop.example/g03101/laws.FnExactPatternOf", spec := "fnExactPatternOf", apart := false }
def FnExactPatternOfSaid : Prop := fnExactPatternOfRow.holds Try.pinned (OpenSpec.ofChange fnExactPatternOfSpec)

/-- ITS FALSE NEIGHBOUR: 'it returns false'. Refute it at one input. -/
def fnExactPatternOfWrong : ChangeSpec := { name := "fnExactPatternOf", fn := fun _ => fun
  | [d] => { results := [.lit (.bool false)], args := [d] }
  | _ => none }
def FnExactPatternOfWrongFalsely : Prop := fnExactPatternOfRow.holds Try.pinned (OpenSpec.ofChange fnExactPatternOfWrong)

/-- 'laws.FnExactPermText': WHATEVER THE INPUT: true; the input reads as it did. -/
def fnExactPermTextSpec : ChangeSpec := { name := "fnExactPermText", fn := fun _ => fun
  | [d] => { results := [.lit (.bool true)], args := [d] }
  | _ => none }
def fnExactPermTextRow : OpenClaim := { program := "ytejeclomjkiibaa", sum := "2f7abb75bfdab611969b4a831eb77d561e68f98009f82db710e48601b172f8bd", func := "loop.example/g03101/laws.FnExactPermText", spec := "fnExactPermText", apart := false }
def FnExactPermTextSaid : Prop := fnExactPermTextRow.holds Try.pinned (OpenSpec.ofChange fnExactPermTextSpec)

/-- ITS FALSE NEIGHBOUR: 'it returns false'. Refute it at one input. -/
def fnExactPermTextWrong : ChangeSpec := { name := "fnExactPermText", fn := fun _ => fun
  | [d] => { results := [.lit (.bool false)], args := [d] }
  | _ => none }
def FnExactPermTextWrongFalsely : Prop := fnExactPermTextRow.holds Try.pinned (OpenSpec.ofChange fnExactPermTextWrong)

/-- 'laws.FnExactParsePerm': WHATEVER THE INPUT: true; the input reads as it did. -/
def fnExactParsePermSpec : ChangeSpec := { name := "fnExactParsePerm", fn := fun _ => fun
  | [d] => { results := [.lit (.bool true)], args := [d] }
  | _ => none }
def fnExactParsePermRow : OpenClaim := { program := "ytejeclomjkiibaa", sum := "2f7abb75bfdab611969b4a831eb77d561e68f98009f82db710e48601b172f8bd", func := "loop.example/g03101/laws.FnExactParsePerm", spec := "fnExactParsePerm", apart := false }
def FnExactParsePermSaid : Prop := fnExactParsePermRow.holds Try.pinned (OpenSpec.ofChange fnExactParsePermSpec)

/-- ITS FALSE NEIGHBOUR: 'it returns false'. Refute it at one input. -/
def fnExactParsePermWrong : ChangeSpec := { name := "fnExactParsePerm", fn := fun _ => fun
  | [d] => { results := [.lit (.bool false)], args := [d] }
  | _ => none }
def FnExactParsePermWrongFalsely : Prop := fnExactParsePermRow.holds Try.pinned (OpenSpec.ofChange fnExactParsePermWrong)

/-- 'laws.FnExactPermsOf': WHATEVER THE INPUT: true; the input reads as it did. -/
def fnExactPermsOfSpec : ChangeSpec := { name := "fnExactPermsOf", fn := fun _ => fun
  | [d] => { results := [.lit (.bool true)], args := [d] }
  | _ => none }
def fnExactPermsOfRow : OpenClaim := { program := "ytejeclomjkiibaa", sum := "2f7abb75bfdab611969b4a831eb77d561e68f98009f82db710e48601b172f8bd", func := "loop.example/g03101/laws.FnExactPermsOf", spec := "fnExactPermsOf", recurses := true, apart := false }
def FnExactPermsOfSaid : Prop := fnExactPermsOfRow.holds Try.pinned (OpenSpec.ofChange fnExactPermsOfSpec)

/-- ITS FALSE NEIGHBOUR: 'it returns false'. Refute it at one input. -/
def fnExactPermsOfWrong : ChangeSpec := { name := "fnExactPermsOf", fn := fun _ => fun
  | [d] => { results := [.lit (.bool false)], args := [d] }
  | _ => none }
def FnExactPermsOfWrongFalsely : Prop := fnExactPermsOfRow.holds Try.pinned (OpenSpec.ofChange fnExactPermsOfWrong)

/- THE SECOND FORM. 'bulk': how many values and letters a reading holds, each counted each time it is reached (what is shared counts as often as it is met; a slice's spare places count too). A statement '..UptoSaid' is the law's where the arguments, and the package variables that the reading takes, are together of bulk at most 1048576: NARROWER than '..Said'. Prove '..Said' where nothing that the law and all that it calls make is longer than what came in: it says more and counts as full. Else prove '..UptoSaid'. A law counts once. -/
mutual
def uptoBulk {H : Type} : DataW H → Nat
  | .lit (.string bytes) => bytes.length + 1
  | .lit _ => 1
  | .nil => 1
  | .ptr d => uptoBulk d + 1
  | .slice elems spare => uptoBulkAll elems + uptoBulkAll spare + 1
  | .agg parts => uptoBulkAll parts + 1
  | .iface _ d => uptoBulk d + 1
  | .map entries => uptoBulkEntries entries + 1
  | .held _ => 1
def uptoBulkAll {H : Type} : List (DataW H) → Nat
  | [] => 0
  | d :: r => uptoBulk d + uptoBulkAll r
def uptoBulkEntries {H : Type} : List (Lit × DataW H) → Nat
  | [] => 0
  | x :: r => uptoBulkEntry x + uptoBulkEntries r
def uptoBulkEntry {H : Type} : Lit × DataW H → Nat
  | (.string bytes, d) => bytes.length + uptoBulk d + 1
  | (_, d) => uptoBulk d + 1
 end
def uptoSmall : (H : Type) → List (DataW H) → Bool := fun _ ds => decide (uptoBulkAll ds ≤ 1048576)
def OpenSpec.upto (s : _root_.Go.ChangeSpec) : _root_.Go.OpenSpec := { _root_.Go.OpenSpec.ofChange s with cond := some uptoSmall }

/-- 'laws.FnExactIsPerm', WHERE WHAT IT READS IS OF BULK AT MOST 1048576: true; the input reads as it did. -/
def fnExactIsPermUptoRow : OpenClaim := { program := "ytejeclomjkiibaa", sum := "2f7abb75bfdab611969b4a831eb77d561e68f98009f82db710e48601b172f8bd", func := "loop.example/g03101/laws.FnExactIsPerm", spec := "fnExactIsPerm", apart := false, narrowed := true }
def FnExactIsPermUptoSaid : Prop := fnExactIsPermUptoRow.holds Try.pinned (OpenSpec.upto fnExactIsPermSpec)

/-- 'laws.FnExactIdentityPerm', WHERE WHAT IT READS IS OF BULK AT MOST 1048576: true; the input reads as it did. -/
def fnExactIdentityPermUptoRow : OpenClaim := { program := "ytejeclomjkiibaa", sum := "2f7abb75bfdab611969b4a831eb77d561e68f98009f82db710e48601b172f8bd", func := "loop.example/g03101/laws.FnExactIdentityPerm", spec := "fnExactIdentityPerm", apart := false, narrowed := true }
def FnExactIdentityPermUptoSaid : Prop := fnExactIdentityPermUptoRow.holds Try.pinned (OpenSpec.upto fnExactIdentityPermSpec)

/-- 'laws.FnExactInversePerm', WHERE WHAT IT READS IS OF BULK AT MOST 1048576: true; the input reads as it did. -/
def fnExactInversePermUptoRow : OpenClaim := { program := "ytejeclomjkiibaa", sum := "2f7abb75bfdab611969b4a831eb77d561e68f98009f82db710e48601b172f8bd", func := "loop.example/g03101/laws.FnExactInversePerm", spec := "fnExactInversePerm", apart := false, narrowed := true }
def FnExactInversePermUptoSaid : Prop := fnExactInversePermUptoRow.holds Try.pinned (OpenSpec.upto fnExactInversePermSpec)

/-- 'laws.FnExactComposePerm', WHERE WHAT IT READS IS OF BULK AT MOST 1048576: true; the input reads as it did. -/
def fnExactComposePermUptoRow : OpenClaim := { program := "ytejeclomjkiibaa", sum := "2f7abb75bfdab611969b4a831eb77d561e68f98009f82db710e48601b172f8bd", func := "loop.example/g03101/laws.FnExactComposePerm", spec := "fnExactComposePerm", apart := false, narrowed := true }
def FnExactComposePermUptoSaid : Prop := fnExactComposePermUptoRow.holds Try.pinned (OpenSpec.upto fnExactComposePermSpec)

/-- 'laws.FnExactBeforePerm', WHERE WHAT IT READS IS OF BULK AT MOST 1048576: true; the input reads as it did. -/
def fnExactBeforePermUptoRow : OpenClaim := { program := "ytejeclomjkiibaa", sum := "2f7abb75bfdab611969b4a831eb77d561e68f98009f82db710e48601b172f8bd", func := "loop.example/g03101/laws.FnExactBeforePerm", spec := "fnExactBeforePerm", apart := false, narrowed := true }
def FnExactBeforePermUptoSaid : Prop := fnExactBeforePermUptoRow.holds Try.pinned (OpenSpec.upto fnExactBeforePermSpec)

/-- 'laws.FnExactPatternOf', WHERE WHAT IT READS IS OF BULK AT MOST 1048576: true; the input reads as it did. -/
def fnExactPatternOfUptoRow : OpenClaim := { program := "ytejeclomjkiibaa", sum := "2f7abb75bfdab611969b4a831eb77d561e68f98009f82db710e48601b172f8bd", func := "loop.example/g03101/laws.FnExactPatternOf", spec := "fnExactPatternOf", apart := false, narrowed := true }
def FnExactPatternOfUptoSaid : Prop := fnExactPatternOfUptoRow.holds Try.pinned (OpenSpec.upto fnExactPatternOfSpec)

/-- 'laws.FnExactPermText', WHERE WHAT IT READS IS OF BULK AT MOST 1048576: true; the input reads as it did. -/
def fnExactPermTextUptoRow : OpenClaim := { program := "ytejeclomjkiibaa", sum := "2f7abb75bfdab611969b4a831eb77d561e68f98009f82db710e48601b172f8bd", func := "loop.example/g03101/laws.FnExactPermText", spec := "fnExactPermText", apart := false, narrowed := true }
def FnExactPermTextUptoSaid : Prop := fnExactPermTextUptoRow.holds Try.pinned (OpenSpec.upto fnExactPermTextSpec)

/-- 'laws.FnExactParsePerm', WHERE WHAT IT READS IS OF BULK AT MOST 1048576: true; the input reads as it did. -/
def fnExactParsePermUptoRow : OpenClaim := { program := "ytejeclomjkiibaa", sum := "2f7abb75bfdab611969b4a831eb77d561e68f98009f82db710e48601b172f8bd", func := "loop.example/g03101/laws.FnExactParsePerm", spec := "fnExactParsePerm", apart := false, narrowed := true }
def FnExactParsePermUptoSaid : Prop := fnExactParsePermUptoRow.holds Try.pinned (OpenSpec.upto fnExactParsePermSpec)

/-- 'laws.FnExactPermsOf', WHERE WHAT IT READS IS OF BULK AT MOST 1048576: true; the input reads as it did. -/
def fnExactPermsOfUptoRow : OpenClaim := { program := "ytejeclomjkiibaa", sum := "2f7abb75bfdab611969b4a831eb77d561e68f98009f82db710e48601b172f8bd", func := "loop.example/g03101/laws.FnExactPermsOf", spec := "fnExactPermsOf", recurses := true, apart := false, narrowed := true }
def FnExactPermsOfUptoSaid : Prop := fnExactPermsOfUptoRow.holds Try.pinned (OpenSpec.upto fnExactPermsOfSpec)

end Rows
end Go.Proofs.Ytejeclomjkiibaa
