/-
  NARROWER THAN 'FOR EVERY INPUT', by the rows' own cells (each row's printed sentence says how): FnMeets: ifaces, laid · FnExactUnionUpTo: ifaces, laid.
  DERIVED. THE GIVEN ROWS OF THIS SEAT. 2 by the template 'for every input the law returns true; each argument reads behind the call as it read before'; 0 by the template 'total and deterministic' (their statements: YtoiipedomgefaaaGreatDoorTotals.lean).
  GIVEN WITH THE SEED: the statements are not yours to turn. If you find one false, say at which input.
  Laid BY PROGRAM, IN A SANDBOX (cutbox-rows.mjs): the forced cells as the released guide's own fill.sh prints them over the translation e523c8933bcc41d2… (all of the seat's roots in one cut). By AI agents, Wed Nov 11 2026. No macro, syntax, notation, axiom, sorry.
-/
import Derived.Test.YtoiipedomgefaaaGreatDoorChecked
import GoSem.Claim
import GoSem.ClaimJoined
import GoSem.ClaimMapViews
import Derived.JoinedTies
import Derived.KernelRfl
namespace Go.Proofs.YtoiipedomgefaaaGreatDoor
/- THE CELL 'sum', in the pinned program and in every row, IS THE sha256 OF THE DUMP (.gsa) THAT YtoiipedomgefaaaGreatDoorProg.lean LOADS. Nothing in Lean hashes anything: it is a label: what it is worth is what the hold of that sum in a sandbox is worth. -/
noncomputable def Tryz.pinned : Pinned := { name := "ytoiipedomgefaaagreatdoor", sum := "e523c8933bcc41d24464097bbee877e4e797d632def70b6cecbccea6b4a7ecc4", checked := Tryz.checked }
namespace Rows
def none {H : Type} : Left H := { results := [], args := [] }

/- WHAT THE LISTED PACKAGE-LEVEL VARIABLES READ AS WHEN THE CALL BEGINS. Each datum BY PROGRAM (the guide's laid-datum.mjs) off the statement by which the dump's own 'gosem.cut.vars' lays the variable. In a bare row this is a premise. The card (YtoiipedomgefaaaGreatDoorCards.lean) ties it to the program's text. -/
def laid_loop_example_g03101_impl_errNoBasis {H : Type} : DataW H := .iface "*errors.errorString" (.ptr (.agg [.lit (.string [97, 32, 108, 105, 115, 116, 32, 105, 115, 32, 110, 111, 32, 98, 97, 115, 105, 115])]))

/-- 'laws.FnMeets': WHATEVER THE INPUT: true; the input reads as it did. -/
def fnMeetsSpec : ChangeSpec := { name := "fnMeets", vars := ["loop.example/g03101/impl.errNoBasis"], fn := fun _ => fun
  | [d, g1] => { results := [.lit (.bool true)], args := [d], vars := [g1] }
  | _ => none }
def fnMeetsRow : OpenClaim := { program := "ytoiipedomgefaaagreatdoor", sum := "e523c8933bcc41d24464097bbee877e4e797d632def70b6cecbccea6b4a7ecc4", func := "loop.example/g03101/laws.FnMeets", spec := "fnMeets", inPlace := ["internal/reflectlite.TypeOf"], unfollowed := true, recurses := true, named := ["loop.example/g03101/impl.errNoBasis"], ifaces := true, apart := false, laid := [("loop.example/g03101/impl.errNoBasis", laid_loop_example_g03101_impl_errNoBasis)] }
def FnMeetsSaid : Prop := fnMeetsRow.holds Tryz.pinned (OpenSpec.ofChange fnMeetsSpec)

/-- ITS FALSE NEIGHBOUR: 'it returns false'. Refute it at one input. -/
def fnMeetsWrong : ChangeSpec := { name := "fnMeets", vars := ["loop.example/g03101/impl.errNoBasis"], fn := fun _ => fun
  | [d, g1] => { results := [.lit (.bool false)], args := [d], vars := [g1] }
  | _ => none }
def FnMeetsWrongFalsely : Prop := fnMeetsRow.holds Tryz.pinned (OpenSpec.ofChange fnMeetsWrong)

/-- 'laws.FnExactUnionUpTo': WHATEVER THE INPUT: true; the input reads as it did. -/
def fnExactUnionUpToSpec : ChangeSpec := { name := "fnExactUnionUpTo", vars := ["loop.example/g03101/impl.errNoBasis"], fn := fun _ => fun
  | [d1, d2, d3, g1] => { results := [.lit (.bool true)], args := [d1, d2, d3], vars := [g1] }
  | _ => none }
def fnExactUnionUpToRow : OpenClaim := { program := "ytoiipedomgefaaagreatdoor", sum := "e523c8933bcc41d24464097bbee877e4e797d632def70b6cecbccea6b4a7ecc4", func := "loop.example/g03101/laws.FnExactUnionUpTo", spec := "fnExactUnionUpTo", inPlace := ["internal/reflectlite.TypeOf"], unfollowed := true, recurses := true, named := ["loop.example/g03101/impl.errNoBasis"], ifaces := true, apart := false, laid := [("loop.example/g03101/impl.errNoBasis", laid_loop_example_g03101_impl_errNoBasis)] }
def FnExactUnionUpToSaid : Prop := fnExactUnionUpToRow.holds Tryz.pinned (OpenSpec.ofChange fnExactUnionUpToSpec)

/-- ITS FALSE NEIGHBOUR: 'it returns false'. Refute it at one input. -/
def fnExactUnionUpToWrong : ChangeSpec := { name := "fnExactUnionUpTo", vars := ["loop.example/g03101/impl.errNoBasis"], fn := fun _ => fun
  | [d1, d2, d3, g1] => { results := [.lit (.bool false)], args := [d1, d2, d3], vars := [g1] }
  | _ => none }
def FnExactUnionUpToWrongFalsely : Prop := fnExactUnionUpToRow.holds Tryz.pinned (OpenSpec.ofChange fnExactUnionUpToWrong)

/- THE SECOND FORM. 'bulk': how many values and letters a reading holds, each counted each time it is reached (what is shared counts as often as it is met; a slice's spare places count too). A statement '..UptoSaid' is the law's where the arguments, and the package variables that the reading takes, are together of bulk at most 1048576: NARROWER than '..Said'. Prove '..Said' where nothing that the law and all that it calls make is longer than what came in: it says more and counts as full. Else prove '..UptoSaid'. A law counts once. -/
mutual
def uptoBulk {H : Type} : DataW H → Nat
  | .lit (.string bytes) => bytes.length + 1
  | .lit _ => 1
  | .nil => 1
  | .ptr d => uptoBulk d + 1
  | .slice elems spare => uptoBulkAll elems + uptoBulkAll spare + 1
  | .agg parts => uptoBulkAll parts + 1
  | .iface _ d => uptoBulk d + 1
  | .map entries => uptoBulkEntries entries + 1
  | .held _ => 1
def uptoBulkAll {H : Type} : List (DataW H) → Nat
  | [] => 0
  | d :: r => uptoBulk d + uptoBulkAll r
def uptoBulkEntries {H : Type} : List (Lit × DataW H) → Nat
  | [] => 0
  | x :: r => uptoBulkEntry x + uptoBulkEntries r
def uptoBulkEntry {H : Type} : Lit × DataW H → Nat
  | (.string bytes, d) => bytes.length + uptoBulk d + 1
  | (_, d) => uptoBulk d + 1
 end
def uptoSmall : (H : Type) → List (DataW H) → Bool := fun _ ds => decide (uptoBulkAll ds ≤ 1048576)
def OpenSpec.upto (s : _root_.Go.ChangeSpec) : _root_.Go.OpenSpec := { _root_.Go.OpenSpec.ofChange s with cond := some uptoSmall }

/-- 'laws.FnMeets', WHERE WHAT IT READS IS OF BULK AT MOST 1048576: true; the input reads as it did. -/
def fnMeetsUptoRow : OpenClaim := { program := "ytoiipedomgefaaagreatdoor", sum := "e523c8933bcc41d24464097bbee877e4e797d632def70b6cecbccea6b4a7ecc4", func := "loop.example/g03101/laws.FnMeets", spec := "fnMeets", inPlace := ["internal/reflectlite.TypeOf"], unfollowed := true, recurses := true, named := ["loop.example/g03101/impl.errNoBasis"], ifaces := true, apart := false, laid := [("loop.example/g03101/impl.errNoBasis", laid_loop_example_g03101_impl_errNoBasis)], narrowed := true }
def FnMeetsUptoSaid : Prop := fnMeetsUptoRow.holds Tryz.pinned (OpenSpec.upto fnMeetsSpec)

/-- 'laws.FnExactUnionUpTo', WHERE WHAT IT READS IS OF BULK AT MOST 1048576: true; the input reads as it did. -/
def fnExactUnionUpToUptoRow : OpenClaim := { program := "ytoiipedomgefaaagreatdoor", sum := "e523c8933bcc41d24464097bbee877e4e797d632def70b6cecbccea6b4a7ecc4", func := "loop.example/g03101/laws.FnExactUnionUpTo", spec := "fnExactUnionUpTo", inPlace := ["internal/reflectlite.TypeOf"], unfollowed := true, recurses := true, named := ["loop.example/g03101/impl.errNoBasis"], ifaces := true, apart := false, laid := [("loop.example/g03101/impl.errNoBasis", laid_loop_example_g03101_impl_errNoBasis)], narrowed := true }
def FnExactUnionUpToUptoSaid : Prop := fnExactUnionUpToUptoRow.holds Tryz.pinned (OpenSpec.upto fnExactUnionUpToSpec)

end Rows
end Go.Proofs.YtoiipedomgefaaaGreatDoor
