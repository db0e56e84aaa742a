/-
  NARROWER THAN 'FOR EVERY INPUT', by the rows' own cells (each row's printed sentence says how): FnExactMeetClasses: ifaces, laid · FnExactIsWithin: ifaces, laid · FnExactSymmetryBasis: ifaces, laid · FnExactIsFinite: ifaces, laid · FnExactIsSumClosed: ifaces, laid · FnExactFirstBeyond: ifaces, laid.
  DERIVED. THE GIVEN ROWS OF THIS SEAT. 6 by the template 'for every input the law returns true; each argument reads behind the call as it read before'; 0 by the template 'total and deterministic' (their statements: YtoiipedomgefaaaDoorTotals.lean).
  GIVEN WITH THE SEED: the statements are not yours to turn. If you find one false, say at which input.
  Laid BY PROGRAM, IN A SANDBOX (cutbox-rows.mjs): the forced cells as the released guide's own fill.sh prints them over the translation 6e939a36864ae148… (all of the seat's roots in one cut). By AI agents, Wed Nov 11 2026. No macro, syntax, notation, axiom, sorry.
-/
import Derived.Test.YtoiipedomgefaaaDoorChecked
import GoSem.Claim
import GoSem.ClaimJoined
import GoSem.ClaimMapViews
import Derived.JoinedTies
import Derived.KernelRfl
namespace Go.Proofs.YtoiipedomgefaaaDoor
/- THE CELL 'sum', in the pinned program and in every row, IS THE sha256 OF THE DUMP (.gsa) THAT YtoiipedomgefaaaDoorProg.lean LOADS. Nothing in Lean hashes anything: it is a label: what it is worth is what the hold of that sum in a sandbox is worth. -/
noncomputable def Tryd.pinned : Pinned := { name := "ytoiipedomgefaaadoor", sum := "6e939a36864ae148f066f924b406556c188355c5957ac68b1ee9a0e0b3a5eb0a", checked := Tryd.checked }
namespace Rows
def none {H : Type} : Left H := { results := [], args := [] }

/- WHAT THE LISTED PACKAGE-LEVEL VARIABLES READ AS WHEN THE CALL BEGINS. Each datum BY PROGRAM (the guide's laid-datum.mjs) off the statement by which the dump's own 'gosem.cut.vars' lays the variable. In a bare row this is a premise. The card (YtoiipedomgefaaaDoorCards.lean) ties it to the program's text. -/
def laid_loop_example_g03101_impl_errNoBasis {H : Type} : DataW H := .iface "*errors.errorString" (.ptr (.agg [.lit (.string [97, 32, 108, 105, 115, 116, 32, 105, 115, 32, 110, 111, 32, 98, 97, 115, 105, 115])]))

/-- 'laws.FnExactMeetClasses': WHATEVER THE INPUT: true; the input reads as it did. -/
def fnExactMeetClassesSpec : ChangeSpec := { name := "fnExactMeetClasses", vars := ["loop.example/g03101/impl.errNoBasis"], fn := fun _ => fun
  | [d1, d2, g1] => { results := [.lit (.bool true)], args := [d1, d2], vars := [g1] }
  | _ => none }
def fnExactMeetClassesRow : OpenClaim := { program := "ytoiipedomgefaaadoor", sum := "6e939a36864ae148f066f924b406556c188355c5957ac68b1ee9a0e0b3a5eb0a", func := "loop.example/g03101/laws.FnExactMeetClasses", spec := "fnExactMeetClasses", inPlace := ["internal/reflectlite.TypeOf"], unfollowed := true, recurses := true, named := ["loop.example/g03101/impl.errNoBasis"], ifaces := true, apart := false, laid := [("loop.example/g03101/impl.errNoBasis", laid_loop_example_g03101_impl_errNoBasis)] }
def FnExactMeetClassesSaid : Prop := fnExactMeetClassesRow.holds Tryd.pinned (OpenSpec.ofChange fnExactMeetClassesSpec)

/-- ITS FALSE NEIGHBOUR: 'it returns false'. Refute it at one input. -/
def fnExactMeetClassesWrong : ChangeSpec := { name := "fnExactMeetClasses", vars := ["loop.example/g03101/impl.errNoBasis"], fn := fun _ => fun
  | [d1, d2, g1] => { results := [.lit (.bool false)], args := [d1, d2], vars := [g1] }
  | _ => none }
def FnExactMeetClassesWrongFalsely : Prop := fnExactMeetClassesRow.holds Tryd.pinned (OpenSpec.ofChange fnExactMeetClassesWrong)

/-- 'laws.FnExactIsWithin': WHATEVER THE INPUT: true; the input reads as it did. -/
def fnExactIsWithinSpec : ChangeSpec := { name := "fnExactIsWithin", vars := ["loop.example/g03101/impl.errNoBasis"], fn := fun _ => fun
  | [d1, d2, g1] => { results := [.lit (.bool true)], args := [d1, d2], vars := [g1] }
  | _ => none }
def fnExactIsWithinRow : OpenClaim := { program := "ytoiipedomgefaaadoor", sum := "6e939a36864ae148f066f924b406556c188355c5957ac68b1ee9a0e0b3a5eb0a", func := "loop.example/g03101/laws.FnExactIsWithin", spec := "fnExactIsWithin", inPlace := ["internal/reflectlite.TypeOf"], unfollowed := true, recurses := true, named := ["loop.example/g03101/impl.errNoBasis"], ifaces := true, apart := false, laid := [("loop.example/g03101/impl.errNoBasis", laid_loop_example_g03101_impl_errNoBasis)] }
def FnExactIsWithinSaid : Prop := fnExactIsWithinRow.holds Tryd.pinned (OpenSpec.ofChange fnExactIsWithinSpec)

/-- ITS FALSE NEIGHBOUR: 'it returns false'. Refute it at one input. -/
def fnExactIsWithinWrong : ChangeSpec := { name := "fnExactIsWithin", vars := ["loop.example/g03101/impl.errNoBasis"], fn := fun _ => fun
  | [d1, d2, g1] => { results := [.lit (.bool false)], args := [d1, d2], vars := [g1] }
  | _ => none }
def FnExactIsWithinWrongFalsely : Prop := fnExactIsWithinRow.holds Tryd.pinned (OpenSpec.ofChange fnExactIsWithinWrong)

/-- 'laws.FnExactSymmetryBasis': WHATEVER THE INPUT: true; the input reads as it did. -/
def fnExactSymmetryBasisSpec : ChangeSpec := { name := "fnExactSymmetryBasis", vars := ["loop.example/g03101/impl.errNoBasis"], fn := fun _ => fun
  | [d1, d2, g1] => { results := [.lit (.bool true)], args := [d1, d2], vars := [g1] }
  | _ => none }
def fnExactSymmetryBasisRow : OpenClaim := { program := "ytoiipedomgefaaadoor", sum := "6e939a36864ae148f066f924b406556c188355c5957ac68b1ee9a0e0b3a5eb0a", func := "loop.example/g03101/laws.FnExactSymmetryBasis", spec := "fnExactSymmetryBasis", inPlace := ["internal/reflectlite.TypeOf"], unfollowed := true, recurses := true, named := ["loop.example/g03101/impl.errNoBasis"], ifaces := true, apart := false, laid := [("loop.example/g03101/impl.errNoBasis", laid_loop_example_g03101_impl_errNoBasis)] }
def FnExactSymmetryBasisSaid : Prop := fnExactSymmetryBasisRow.holds Tryd.pinned (OpenSpec.ofChange fnExactSymmetryBasisSpec)

/-- ITS FALSE NEIGHBOUR: 'it returns false'. Refute it at one input. -/
def fnExactSymmetryBasisWrong : ChangeSpec := { name := "fnExactSymmetryBasis", vars := ["loop.example/g03101/impl.errNoBasis"], fn := fun _ => fun
  | [d1, d2, g1] => { results := [.lit (.bool false)], args := [d1, d2], vars := [g1] }
  | _ => none }
def FnExactSymmetryBasisWrongFalsely : Prop := fnExactSymmetryBasisRow.holds Tryd.pinned (OpenSpec.ofChange fnExactSymmetryBasisWrong)

/-- 'laws.FnExactIsFinite': WHATEVER THE INPUT: true; the input reads as it did. -/
def fnExactIsFiniteSpec : ChangeSpec := { name := "fnExactIsFinite", vars := ["loop.example/g03101/impl.errNoBasis"], fn := fun _ => fun
  | [d, g1] => { results := [.lit (.bool true)], args := [d], vars := [g1] }
  | _ => none }
def fnExactIsFiniteRow : OpenClaim := { program := "ytoiipedomgefaaadoor", sum := "6e939a36864ae148f066f924b406556c188355c5957ac68b1ee9a0e0b3a5eb0a", func := "loop.example/g03101/laws.FnExactIsFinite", spec := "fnExactIsFinite", inPlace := ["internal/reflectlite.TypeOf"], unfollowed := true, recurses := true, named := ["loop.example/g03101/impl.errNoBasis"], ifaces := true, apart := false, laid := [("loop.example/g03101/impl.errNoBasis", laid_loop_example_g03101_impl_errNoBasis)] }
def FnExactIsFiniteSaid : Prop := fnExactIsFiniteRow.holds Tryd.pinned (OpenSpec.ofChange fnExactIsFiniteSpec)

/-- ITS FALSE NEIGHBOUR: 'it returns false'. Refute it at one input. -/
def fnExactIsFiniteWrong : ChangeSpec := { name := "fnExactIsFinite", vars := ["loop.example/g03101/impl.errNoBasis"], fn := fun _ => fun
  | [d, g1] => { results := [.lit (.bool false)], args := [d], vars := [g1] }
  | _ => none }
def FnExactIsFiniteWrongFalsely : Prop := fnExactIsFiniteRow.holds Tryd.pinned (OpenSpec.ofChange fnExactIsFiniteWrong)

/-- 'laws.FnExactIsSumClosed': WHATEVER THE INPUT: true; the input reads as it did. -/
def fnExactIsSumClosedSpec : ChangeSpec := { name := "fnExactIsSumClosed", vars := ["loop.example/g03101/impl.errNoBasis"], fn := fun _ => fun
  | [d, g1] => { results := [.lit (.bool true)], args := [d], vars := [g1] }
  | _ => none }
def fnExactIsSumClosedRow : OpenClaim := { program := "ytoiipedomgefaaadoor", sum := "6e939a36864ae148f066f924b406556c188355c5957ac68b1ee9a0e0b3a5eb0a", func := "loop.example/g03101/laws.FnExactIsSumClosed", spec := "fnExactIsSumClosed", inPlace := ["internal/reflectlite.TypeOf"], unfollowed := true, recurses := true, named := ["loop.example/g03101/impl.errNoBasis"], ifaces := true, apart := false, laid := [("loop.example/g03101/impl.errNoBasis", laid_loop_example_g03101_impl_errNoBasis)] }
def FnExactIsSumClosedSaid : Prop := fnExactIsSumClosedRow.holds Tryd.pinned (OpenSpec.ofChange fnExactIsSumClosedSpec)

/-- ITS FALSE NEIGHBOUR: 'it returns false'. Refute it at one input. -/
def fnExactIsSumClosedWrong : ChangeSpec := { name := "fnExactIsSumClosed", vars := ["loop.example/g03101/impl.errNoBasis"], fn := fun _ => fun
  | [d, g1] => { results := [.lit (.bool false)], args := [d], vars := [g1] }
  | _ => none }
def FnExactIsSumClosedWrongFalsely : Prop := fnExactIsSumClosedRow.holds Tryd.pinned (OpenSpec.ofChange fnExactIsSumClosedWrong)

/-- 'laws.FnExactFirstBeyond': WHATEVER THE INPUT: true; the input reads as it did. -/
def fnExactFirstBeyondSpec : ChangeSpec := { name := "fnExactFirstBeyond", vars := ["loop.example/g03101/impl.errNoBasis"], fn := fun _ => fun
  | [d1, d2, d3, g1] => { results := [.lit (.bool true)], args := [d1, d2, d3], vars := [g1] }
  | _ => none }
def fnExactFirstBeyondRow : OpenClaim := { program := "ytoiipedomgefaaadoor", sum := "6e939a36864ae148f066f924b406556c188355c5957ac68b1ee9a0e0b3a5eb0a", func := "loop.example/g03101/laws.FnExactFirstBeyond", spec := "fnExactFirstBeyond", inPlace := ["internal/reflectlite.TypeOf"], unfollowed := true, recurses := true, named := ["loop.example/g03101/impl.errNoBasis"], ifaces := true, apart := false, laid := [("loop.example/g03101/impl.errNoBasis", laid_loop_example_g03101_impl_errNoBasis)] }
def FnExactFirstBeyondSaid : Prop := fnExactFirstBeyondRow.holds Tryd.pinned (OpenSpec.ofChange fnExactFirstBeyondSpec)

/-- ITS FALSE NEIGHBOUR: 'it returns false'. Refute it at one input. -/
def fnExactFirstBeyondWrong : ChangeSpec := { name := "fnExactFirstBeyond", vars := ["loop.example/g03101/impl.errNoBasis"], fn := fun _ => fun
  | [d1, d2, d3, g1] => { results := [.lit (.bool false)], args := [d1, d2, d3], vars := [g1] }
  | _ => none }
def FnExactFirstBeyondWrongFalsely : Prop := fnExactFirstBeyondRow.holds Tryd.pinned (OpenSpec.ofChange fnExactFirstBeyondWrong)

/- THE SECOND FORM. 'bulk': how many values and letters a reading holds, each counted each time it is reached (what is shared counts as often as it is met; a slice's spare places count too). A statement '..UptoSaid' is the law's where the arguments, and the package variables that the reading takes, are together of bulk at most 1048576: NARROWER than '..Said'. Prove '..Said' where nothing that the law and all that it calls make is longer than what came in: it says more and counts as full. Else prove '..UptoSaid'. A law counts once. -/
mutual
def uptoBulk {H : Type} : DataW H → Nat
  | .lit (.string bytes) => bytes.length + 1
  | .lit _ => 1
  | .nil => 1
  | .ptr d => uptoBulk d + 1
  | .slice elems spare => uptoBulkAll elems + uptoBulkAll spare + 1
  | .agg parts => uptoBulkAll parts + 1
  | .iface _ d => uptoBulk d + 1
  | .map entries => uptoBulkEntries entries + 1
  | .held _ => 1
def uptoBulkAll {H : Type} : List (DataW H) → Nat
  | [] => 0
  | d :: r => uptoBulk d + uptoBulkAll r
def uptoBulkEntries {H : Type} : List (Lit × DataW H) → Nat
  | [] => 0
  | x :: r => uptoBulkEntry x + uptoBulkEntries r
def uptoBulkEntry {H : Type} : Lit × DataW H → Nat
  | (.string bytes, d) => bytes.length + uptoBulk d + 1
  | (_, d) => uptoBulk d + 1
 end
def uptoSmall : (H : Type) → List (DataW H) → Bool := fun _ ds => decide (uptoBulkAll ds ≤ 1048576)
def OpenSpec.upto (s : _root_.Go.ChangeSpec) : _root_.Go.OpenSpec := { _root_.Go.OpenSpec.ofChange s with cond := some uptoSmall }

/-- 'laws.FnExactMeetClasses', WHERE WHAT IT READS IS OF BULK AT MOST 1048576: true; the input reads as it did. -/
def fnExactMeetClassesUptoRow : OpenClaim := { program := "ytoiipedomgefaaadoor", sum := "6e939a36864ae148f066f924b406556c188355c5957ac68b1ee9a0e0b3a5eb0a", func := "loop.example/g03101/laws.FnExactMeetClasses", spec := "fnExactMeetClasses", inPlace := ["internal/reflectlite.TypeOf"], unfollowed := true, recurses := true, named := ["loop.example/g03101/impl.errNoBasis"], ifaces := true, apart := false, laid := [("loop.example/g03101/impl.errNoBasis", laid_loop_example_g03101_impl_errNoBasis)], narrowed := true }
def FnExactMeetClassesUptoSaid : Prop := fnExactMeetClassesUptoRow.holds Tryd.pinned (OpenSpec.upto fnExactMeetClassesSpec)

/-- 'laws.FnExactIsWithin', WHERE WHAT IT READS IS OF BULK AT MOST 1048576: true; the input reads as it did. -/
def fnExactIsWithinUptoRow : OpenClaim := { program := "ytoiipedomgefaaadoor", sum := "6e939a36864ae148f066f924b406556c188355c5957ac68b1ee9a0e0b3a5eb0a", func := "loop.example/g03101/laws.FnExactIsWithin", spec := "fnExactIsWithin", inPlace := ["internal/reflectlite.TypeOf"], unfollowed := true, recurses := true, named := ["loop.example/g03101/impl.errNoBasis"], ifaces := true, apart := false, laid := [("loop.example/g03101/impl.errNoBasis", laid_loop_example_g03101_impl_errNoBasis)], narrowed := true }
def FnExactIsWithinUptoSaid : Prop := fnExactIsWithinUptoRow.holds Tryd.pinned (OpenSpec.upto fnExactIsWithinSpec)

/-- 'laws.FnExactSymmetryBasis', WHERE WHAT IT READS IS OF BULK AT MOST 1048576: true; the input reads as it did. -/
def fnExactSymmetryBasisUptoRow : OpenClaim := { program := "ytoiipedomgefaaadoor", sum := "6e939a36864ae148f066f924b406556c188355c5957ac68b1ee9a0e0b3a5eb0a", func := "loop.example/g03101/laws.FnExactSymmetryBasis", spec := "fnExactSymmetryBasis", inPlace := ["internal/reflectlite.TypeOf"], unfollowed := true, recurses := true, named := ["loop.example/g03101/impl.errNoBasis"], ifaces := true, apart := false, laid := [("loop.example/g03101/impl.errNoBasis", laid_loop_example_g03101_impl_errNoBasis)], narrowed := true }
def FnExactSymmetryBasisUptoSaid : Prop := fnExactSymmetryBasisUptoRow.holds Tryd.pinned (OpenSpec.upto fnExactSymmetryBasisSpec)

/-- 'laws.FnExactIsFinite', WHERE WHAT IT READS IS OF BULK AT MOST 1048576: true; the input reads as it did. -/
def fnExactIsFiniteUptoRow : OpenClaim := { program := "ytoiipedomgefaaadoor", sum := "6e939a36864ae148f066f924b406556c188355c5957ac68b1ee9a0e0b3a5eb0a", func := "loop.example/g03101/laws.FnExactIsFinite", spec := "fnExactIsFinite", inPlace := ["internal/reflectlite.TypeOf"], unfollowed := true, recurses := true, named := ["loop.example/g03101/impl.errNoBasis"], ifaces := true, apart := false, laid := [("loop.example/g03101/impl.errNoBasis", laid_loop_example_g03101_impl_errNoBasis)], narrowed := true }
def FnExactIsFiniteUptoSaid : Prop := fnExactIsFiniteUptoRow.holds Tryd.pinned (OpenSpec.upto fnExactIsFiniteSpec)

/-- 'laws.FnExactIsSumClosed', WHERE WHAT IT READS IS OF BULK AT MOST 1048576: true; the input reads as it did. -/
def fnExactIsSumClosedUptoRow : OpenClaim := { program := "ytoiipedomgefaaadoor", sum := "6e939a36864ae148f066f924b406556c188355c5957ac68b1ee9a0e0b3a5eb0a", func := "loop.example/g03101/laws.FnExactIsSumClosed", spec := "fnExactIsSumClosed", inPlace := ["internal/reflectlite.TypeOf"], unfollowed := true, recurses := true, named := ["loop.example/g03101/impl.errNoBasis"], ifaces := true, apart := false, laid := [("loop.example/g03101/impl.errNoBasis", laid_loop_example_g03101_impl_errNoBasis)], narrowed := true }
def FnExactIsSumClosedUptoSaid : Prop := fnExactIsSumClosedUptoRow.holds Tryd.pinned (OpenSpec.upto fnExactIsSumClosedSpec)

/-- 'laws.FnExactFirstBeyond', WHERE WHAT IT READS IS OF BULK AT MOST 1048576: true; the input reads as it did. -/
def fnExactFirstBeyondUptoRow : OpenClaim := { program := "ytoiipedomgefaaadoor", sum := "6e939a36864ae148f066f924b406556c188355c5957ac68b1ee9a0e0b3a5eb0a", func := "loop.example/g03101/laws.FnExactFirstBeyond", spec := "fnExactFirstBeyond", inPlace := ["internal/reflectlite.TypeOf"], unfollowed := true, recurses := true, named := ["loop.example/g03101/impl.errNoBasis"], ifaces := true, apart := false, laid := [("loop.example/g03101/impl.errNoBasis", laid_loop_example_g03101_impl_errNoBasis)], narrowed := true }
def FnExactFirstBeyondUptoSaid : Prop := fnExactFirstBeyondUptoRow.holds Tryd.pinned (OpenSpec.upto fnExactFirstBeyondSpec)

end Rows
end Go.Proofs.YtoiipedomgefaaaDoor
