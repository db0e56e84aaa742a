/-
  No cell of these rows narrows 'for every input' (looked for: loops, veiled, ifaces, maps, wideKeys, modest, calm, conditions, laid).
  DERIVED. THE GIVEN ROWS OF THIS SEAT. 11 by the template 'for every input the law returns true; each argument reads behind the call as it read before'; 0 by the template 'total and deterministic' (their statements: YtcnmnpbipencmaaTotals.lean).
  GIVEN WITH THE SEED: the statements are not yours to turn. If you find one false, say at which input.
  Laid BY PROGRAM, IN A SANDBOX (cutbox-rows.mjs): the forced cells as the released guide's own fill.sh prints them over the translation 47f2148525e3f63c… (all of the seat's roots in one cut). By AI agents, Wed Nov 11 2026. No macro, syntax, notation, axiom, sorry.
-/
import Derived.Test.YtcnmnpbipencmaaChecked
import GoSem.Claim
import GoSem.ClaimJoined
import GoSem.ClaimMapViews
import Derived.JoinedTies
import Derived.KernelRfl
namespace Go.Proofs.Ytcnmnpbipencmaa
/- THE CELL 'sum', in the pinned program and in every row, IS THE sha256 OF THE DUMP (.gsa) THAT YtcnmnpbipencmaaProg.lean LOADS. Nothing in Lean hashes anything: it is a label: what it is worth is what the hold of that sum in a sandbox is worth. -/
noncomputable def Try.pinned : Pinned := { name := "ytcnmnpbipencmaa", sum := "47f2148525e3f63cc9f0d74cdc2e9a0ba307c118f5e72dc035843b39dfcc1b48", checked := Try.checked }
namespace Rows
def none {H : Type} : Left H := { results := [], args := [] }

/-- 'laws.FnStatistics': WHATEVER THE INPUT: true; the input reads as it did. -/
def fnStatisticsSpec : ChangeSpec := { name := "fnStatistics", fn := fun _ => fun
  | [d] => { results := [.lit (.bool true)], args := [d] }
  | _ => none }
def fnStatisticsRow : OpenClaim := { program := "ytcnmnpbipencmaa", sum := "47f2148525e3f63cc9f0d74cdc2e9a0ba307c118f5e72dc035843b39dfcc1b48", func := "loop.example/g03101/laws.FnStatistics", spec := "fnStatistics", unfollowed := true, recurses := true, apart := false }
def FnStatisticsSaid : Prop := fnStatisticsRow.holds Try.pinned (OpenSpec.ofChange fnStatisticsSpec)

/-- ITS FALSE NEIGHBOUR: 'it returns false'. Refute it at one input. -/
def fnStatisticsWrong : ChangeSpec := { name := "fnStatistics", fn := fun _ => fun
  | [d] => { results := [.lit (.bool false)], args := [d] }
  | _ => none }
def FnStatisticsWrongFalsely : Prop := fnStatisticsRow.holds Try.pinned (OpenSpec.ofChange fnStatisticsWrong)

/-- 'laws.FnExactDescentsOf': WHATEVER THE INPUT: true; the input reads as it did. -/
def fnExactDescentsOfSpec : ChangeSpec := { name := "fnExactDescentsOf", fn := fun _ => fun
  | [d] => { results := [.lit (.bool true)], args := [d] }
  | _ => none }
def fnExactDescentsOfRow : OpenClaim := { program := "ytcnmnpbipencmaa", sum := "47f2148525e3f63cc9f0d74cdc2e9a0ba307c118f5e72dc035843b39dfcc1b48", func := "loop.example/g03101/laws.FnExactDescentsOf", spec := "fnExactDescentsOf", unfollowed := true, recurses := true, apart := false }
def FnExactDescentsOfSaid : Prop := fnExactDescentsOfRow.holds Try.pinned (OpenSpec.ofChange fnExactDescentsOfSpec)

/-- ITS FALSE NEIGHBOUR: 'it returns false'. Refute it at one input. -/
def fnExactDescentsOfWrong : ChangeSpec := { name := "fnExactDescentsOf", fn := fun _ => fun
  | [d] => { results := [.lit (.bool false)], args := [d] }
  | _ => none }
def FnExactDescentsOfWrongFalsely : Prop := fnExactDescentsOfRow.holds Try.pinned (OpenSpec.ofChange fnExactDescentsOfWrong)

/-- 'laws.FnExactCountInversions': WHATEVER THE INPUT: true; the input reads as it did. -/
def fnExactCountInversionsSpec : ChangeSpec := { name := "fnExactCountInversions", fn := fun _ => fun
  | [d] => { results := [.lit (.bool true)], args := [d] }
  | _ => none }
def fnExactCountInversionsRow : OpenClaim := { program := "ytcnmnpbipencmaa", sum := "47f2148525e3f63cc9f0d74cdc2e9a0ba307c118f5e72dc035843b39dfcc1b48", func := "loop.example/g03101/laws.FnExactCountInversions", spec := "fnExactCountInversions", apart := false }
def FnExactCountInversionsSaid : Prop := fnExactCountInversionsRow.holds Try.pinned (OpenSpec.ofChange fnExactCountInversionsSpec)

/-- ITS FALSE NEIGHBOUR: 'it returns false'. Refute it at one input. -/
def fnExactCountInversionsWrong : ChangeSpec := { name := "fnExactCountInversions", fn := fun _ => fun
  | [d] => { results := [.lit (.bool false)], args := [d] }
  | _ => none }
def FnExactCountInversionsWrongFalsely : Prop := fnExactCountInversionsRow.holds Try.pinned (OpenSpec.ofChange fnExactCountInversionsWrong)

/-- 'laws.FnExactMajorOf': WHATEVER THE INPUT: true; the input reads as it did. -/
def fnExactMajorOfSpec : ChangeSpec := { name := "fnExactMajorOf", fn := fun _ => fun
  | [d] => { results := [.lit (.bool true)], args := [d] }
  | _ => none }
def fnExactMajorOfRow : OpenClaim := { program := "ytcnmnpbipencmaa", sum := "47f2148525e3f63cc9f0d74cdc2e9a0ba307c118f5e72dc035843b39dfcc1b48", func := "loop.example/g03101/laws.FnExactMajorOf", spec := "fnExactMajorOf", unfollowed := true, recurses := true, apart := false }
def FnExactMajorOfSaid : Prop := fnExactMajorOfRow.holds Try.pinned (OpenSpec.ofChange fnExactMajorOfSpec)

/-- ITS FALSE NEIGHBOUR: 'it returns false'. Refute it at one input. -/
def fnExactMajorOfWrong : ChangeSpec := { name := "fnExactMajorOf", fn := fun _ => fun
  | [d] => { results := [.lit (.bool false)], args := [d] }
  | _ => none }
def FnExactMajorOfWrongFalsely : Prop := fnExactMajorOfRow.holds Try.pinned (OpenSpec.ofChange fnExactMajorOfWrong)

/-- 'laws.FnExactRecordsOf': WHATEVER THE INPUT: true; the input reads as it did. -/
def fnExactRecordsOfSpec : ChangeSpec := { name := "fnExactRecordsOf", fn := fun _ => fun
  | [d] => { results := [.lit (.bool true)], args := [d] }
  | _ => none }
def fnExactRecordsOfRow : OpenClaim := { program := "ytcnmnpbipencmaa", sum := "47f2148525e3f63cc9f0d74cdc2e9a0ba307c118f5e72dc035843b39dfcc1b48", func := "loop.example/g03101/laws.FnExactRecordsOf", spec := "fnExactRecordsOf", unfollowed := true, recurses := true, apart := false }
def FnExactRecordsOfSaid : Prop := fnExactRecordsOfRow.holds Try.pinned (OpenSpec.ofChange fnExactRecordsOfSpec)

/-- ITS FALSE NEIGHBOUR: 'it returns false'. Refute it at one input. -/
def fnExactRecordsOfWrong : ChangeSpec := { name := "fnExactRecordsOf", fn := fun _ => fun
  | [d] => { results := [.lit (.bool false)], args := [d] }
  | _ => none }
def FnExactRecordsOfWrongFalsely : Prop := fnExactRecordsOfRow.holds Try.pinned (OpenSpec.ofChange fnExactRecordsOfWrong)

/-- 'laws.FnExactLowsOf': WHATEVER THE INPUT: true; the input reads as it did. -/
def fnExactLowsOfSpec : ChangeSpec := { name := "fnExactLowsOf", fn := fun _ => fun
  | [d] => { results := [.lit (.bool true)], args := [d] }
  | _ => none }
def fnExactLowsOfRow : OpenClaim := { program := "ytcnmnpbipencmaa", sum := "47f2148525e3f63cc9f0d74cdc2e9a0ba307c118f5e72dc035843b39dfcc1b48", func := "loop.example/g03101/laws.FnExactLowsOf", spec := "fnExactLowsOf", unfollowed := true, recurses := true, apart := false }
def FnExactLowsOfSaid : Prop := fnExactLowsOfRow.holds Try.pinned (OpenSpec.ofChange fnExactLowsOfSpec)

/-- ITS FALSE NEIGHBOUR: 'it returns false'. Refute it at one input. -/
def fnExactLowsOfWrong : ChangeSpec := { name := "fnExactLowsOf", fn := fun _ => fun
  | [d] => { results := [.lit (.bool false)], args := [d] }
  | _ => none }
def FnExactLowsOfWrongFalsely : Prop := fnExactLowsOfRow.holds Try.pinned (OpenSpec.ofChange fnExactLowsOfWrong)

/-- 'laws.FnExactCountFixed': WHATEVER THE INPUT: true; the input reads as it did. -/
def fnExactCountFixedSpec : ChangeSpec := { name := "fnExactCountFixed", fn := fun _ => fun
  | [d] => { results := [.lit (.bool true)], args := [d] }
  | _ => none }
def fnExactCountFixedRow : OpenClaim := { program := "ytcnmnpbipencmaa", sum := "47f2148525e3f63cc9f0d74cdc2e9a0ba307c118f5e72dc035843b39dfcc1b48", func := "loop.example/g03101/laws.FnExactCountFixed", spec := "fnExactCountFixed", unfollowed := true, recurses := true, apart := false }
def FnExactCountFixedSaid : Prop := fnExactCountFixedRow.holds Try.pinned (OpenSpec.ofChange fnExactCountFixedSpec)

/-- ITS FALSE NEIGHBOUR: 'it returns false'. Refute it at one input. -/
def fnExactCountFixedWrong : ChangeSpec := { name := "fnExactCountFixed", fn := fun _ => fun
  | [d] => { results := [.lit (.bool false)], args := [d] }
  | _ => none }
def FnExactCountFixedWrongFalsely : Prop := fnExactCountFixedRow.holds Try.pinned (OpenSpec.ofChange fnExactCountFixedWrong)

/-- 'laws.FnExactCountRises': WHATEVER THE INPUT: true; the input reads as it did. -/
def fnExactCountRisesSpec : ChangeSpec := { name := "fnExactCountRises", fn := fun _ => fun
  | [d] => { results := [.lit (.bool true)], args := [d] }
  | _ => none }
def fnExactCountRisesRow : OpenClaim := { program := "ytcnmnpbipencmaa", sum := "47f2148525e3f63cc9f0d74cdc2e9a0ba307c118f5e72dc035843b39dfcc1b48", func := "loop.example/g03101/laws.FnExactCountRises", spec := "fnExactCountRises", unfollowed := true, recurses := true, apart := false }
def FnExactCountRisesSaid : Prop := fnExactCountRisesRow.holds Try.pinned (OpenSpec.ofChange fnExactCountRisesSpec)

/-- ITS FALSE NEIGHBOUR: 'it returns false'. Refute it at one input. -/
def fnExactCountRisesWrong : ChangeSpec := { name := "fnExactCountRises", fn := fun _ => fun
  | [d] => { results := [.lit (.bool false)], args := [d] }
  | _ => none }
def FnExactCountRisesWrongFalsely : Prop := fnExactCountRisesRow.holds Try.pinned (OpenSpec.ofChange fnExactCountRisesWrong)

/-- 'laws.FnExactCountCycles': WHATEVER THE INPUT: true; the input reads as it did. -/
def fnExactCountCyclesSpec : ChangeSpec := { name := "fnExactCountCycles", fn := fun _ => fun
  | [d] => { results := [.lit (.bool true)], args := [d] }
  | _ => none }
def fnExactCountCyclesRow : OpenClaim := { program := "ytcnmnpbipencmaa", sum := "47f2148525e3f63cc9f0d74cdc2e9a0ba307c118f5e72dc035843b39dfcc1b48", func := "loop.example/g03101/laws.FnExactCountCycles", spec := "fnExactCountCycles", unfollowed := true, recurses := true, apart := false }
def FnExactCountCyclesSaid : Prop := fnExactCountCyclesRow.holds Try.pinned (OpenSpec.ofChange fnExactCountCyclesSpec)

/-- ITS FALSE NEIGHBOUR: 'it returns false'. Refute it at one input. -/
def fnExactCountCyclesWrong : ChangeSpec := { name := "fnExactCountCycles", fn := fun _ => fun
  | [d] => { results := [.lit (.bool false)], args := [d] }
  | _ => none }
def FnExactCountCyclesWrongFalsely : Prop := fnExactCountCyclesRow.holds Try.pinned (OpenSpec.ofChange fnExactCountCyclesWrong)

/-- 'laws.FnExactEulerRow': WHATEVER THE INPUT: true; the input reads as it did. -/
def fnExactEulerRowSpec : ChangeSpec := { name := "fnExactEulerRow", fn := fun _ => fun
  | [d] => { results := [.lit (.bool true)], args := [d] }
  | _ => none }
def fnExactEulerRowRow : OpenClaim := { program := "ytcnmnpbipencmaa", sum := "47f2148525e3f63cc9f0d74cdc2e9a0ba307c118f5e72dc035843b39dfcc1b48", func := "loop.example/g03101/laws.FnExactEulerRow", spec := "fnExactEulerRow", apart := false }
def FnExactEulerRowSaid : Prop := fnExactEulerRowRow.holds Try.pinned (OpenSpec.ofChange fnExactEulerRowSpec)

/-- ITS FALSE NEIGHBOUR: 'it returns false'. Refute it at one input. -/
def fnExactEulerRowWrong : ChangeSpec := { name := "fnExactEulerRow", fn := fun _ => fun
  | [d] => { results := [.lit (.bool false)], args := [d] }
  | _ => none }
def FnExactEulerRowWrongFalsely : Prop := fnExactEulerRowRow.holds Try.pinned (OpenSpec.ofChange fnExactEulerRowWrong)

/-- 'laws.FnExactMahonRow': WHATEVER THE INPUT: true; the input reads as it did. -/
def fnExactMahonRowSpec : ChangeSpec := { name := "fnExactMahonRow", fn := fun _ => fun
  | [d] => { results := [.lit (.bool true)], args := [d] }
  | _ => none }
def fnExactMahonRowRow : OpenClaim := { program := "ytcnmnpbipencmaa", sum := "47f2148525e3f63cc9f0d74cdc2e9a0ba307c118f5e72dc035843b39dfcc1b48", func := "loop.example/g03101/laws.FnExactMahonRow", spec := "fnExactMahonRow", apart := false }
def FnExactMahonRowSaid : Prop := fnExactMahonRowRow.holds Try.pinned (OpenSpec.ofChange fnExactMahonRowSpec)

/-- ITS FALSE NEIGHBOUR: 'it returns false'. Refute it at one input. -/
def fnExactMahonRowWrong : ChangeSpec := { name := "fnExactMahonRow", fn := fun _ => fun
  | [d] => { results := [.lit (.bool false)], args := [d] }
  | _ => none }
def FnExactMahonRowWrongFalsely : Prop := fnExactMahonRowRow.holds Try.pinned (OpenSpec.ofChange fnExactMahonRowWrong)

/- THE SECOND FORM. 'bulk': how many values and letters a reading holds, each counted each time it is reached (what is shared counts as often as it is met; a slice's spare places count too). A statement '..UptoSaid' is the law's where the arguments, and the package variables that the reading takes, are together of bulk at most 1048576: NARROWER than '..Said'. Prove '..Said' where nothing that the law and all that it calls make is longer than what came in: it says more and counts as full. Else prove '..UptoSaid'. A law counts once. -/
mutual
def uptoBulk {H : Type} : DataW H → Nat
  | .lit (.string bytes) => bytes.length + 1
  | .lit _ => 1
  | .nil => 1
  | .ptr d => uptoBulk d + 1
  | .slice elems spare => uptoBulkAll elems + uptoBulkAll spare + 1
  | .agg parts => uptoBulkAll parts + 1
  | .iface _ d => uptoBulk d + 1
  | .map entries => uptoBulkEntries entries + 1
  | .held _ => 1
def uptoBulkAll {H : Type} : List (DataW H) → Nat
  | [] => 0
  | d :: r => uptoBulk d + uptoBulkAll r
def uptoBulkEntries {H : Type} : List (Lit × DataW H) → Nat
  | [] => 0
  | x :: r => uptoBulkEntry x + uptoBulkEntries r
def uptoBulkEntry {H : Type} : Lit × DataW H → Nat
  | (.string bytes, d) => bytes.length + uptoBulk d + 1
  | (_, d) => uptoBulk d + 1
 end
def uptoSmall : (H : Type) → List (DataW H) → Bool := fun _ ds => decide (uptoBulkAll ds ≤ 1048576)
def OpenSpec.upto (s : _root_.Go.ChangeSpec) : _root_.Go.OpenSpec := { _root_.Go.OpenSpec.ofChange s with cond := some uptoSmall }

/-- 'laws.FnStatistics', WHERE WHAT IT READS IS OF BULK AT MOST 1048576: true; the input reads as it did. -/
def fnStatisticsUptoRow : OpenClaim := { program := "ytcnmnpbipencmaa", sum := "47f2148525e3f63cc9f0d74cdc2e9a0ba307c118f5e72dc035843b39dfcc1b48", func := "loop.example/g03101/laws.FnStatistics", spec := "fnStatistics", unfollowed := true, recurses := true, apart := false, narrowed := true }
def FnStatisticsUptoSaid : Prop := fnStatisticsUptoRow.holds Try.pinned (OpenSpec.upto fnStatisticsSpec)

/-- 'laws.FnExactDescentsOf', WHERE WHAT IT READS IS OF BULK AT MOST 1048576: true; the input reads as it did. -/
def fnExactDescentsOfUptoRow : OpenClaim := { program := "ytcnmnpbipencmaa", sum := "47f2148525e3f63cc9f0d74cdc2e9a0ba307c118f5e72dc035843b39dfcc1b48", func := "loop.example/g03101/laws.FnExactDescentsOf", spec := "fnExactDescentsOf", unfollowed := true, recurses := true, apart := false, narrowed := true }
def FnExactDescentsOfUptoSaid : Prop := fnExactDescentsOfUptoRow.holds Try.pinned (OpenSpec.upto fnExactDescentsOfSpec)

/-- 'laws.FnExactCountInversions', WHERE WHAT IT READS IS OF BULK AT MOST 1048576: true; the input reads as it did. -/
def fnExactCountInversionsUptoRow : OpenClaim := { program := "ytcnmnpbipencmaa", sum := "47f2148525e3f63cc9f0d74cdc2e9a0ba307c118f5e72dc035843b39dfcc1b48", func := "loop.example/g03101/laws.FnExactCountInversions", spec := "fnExactCountInversions", apart := false, narrowed := true }
def FnExactCountInversionsUptoSaid : Prop := fnExactCountInversionsUptoRow.holds Try.pinned (OpenSpec.upto fnExactCountInversionsSpec)

/-- 'laws.FnExactMajorOf', WHERE WHAT IT READS IS OF BULK AT MOST 1048576: true; the input reads as it did. -/
def fnExactMajorOfUptoRow : OpenClaim := { program := "ytcnmnpbipencmaa", sum := "47f2148525e3f63cc9f0d74cdc2e9a0ba307c118f5e72dc035843b39dfcc1b48", func := "loop.example/g03101/laws.FnExactMajorOf", spec := "fnExactMajorOf", unfollowed := true, recurses := true, apart := false, narrowed := true }
def FnExactMajorOfUptoSaid : Prop := fnExactMajorOfUptoRow.holds Try.pinned (OpenSpec.upto fnExactMajorOfSpec)

/-- 'laws.FnExactRecordsOf', WHERE WHAT IT READS IS OF BULK AT MOST 1048576: true; the input reads as it did. -/
def fnExactRecordsOfUptoRow : OpenClaim := { program := "ytcnmnpbipencmaa", sum := "47f2148525e3f63cc9f0d74cdc2e9a0ba307c118f5e72dc035843b39dfcc1b48", func := "loop.example/g03101/laws.FnExactRecordsOf", spec := "fnExactRecordsOf", unfollowed := true, recurses := true, apart := false, narrowed := true }
def FnExactRecordsOfUptoSaid : Prop := fnExactRecordsOfUptoRow.holds Try.pinned (OpenSpec.upto fnExactRecordsOfSpec)

/-- 'laws.FnExactLowsOf', WHERE WHAT IT READS IS OF BULK AT MOST 1048576: true; the input reads as it did. -/
def fnExactLowsOfUptoRow : OpenClaim := { program := "ytcnmnpbipencmaa", sum := "47f2148525e3f63cc9f0d74cdc2e9a0ba307c118f5e72dc035843b39dfcc1b48", func := "loop.example/g03101/laws.FnExactLowsOf", spec := "fnExactLowsOf", unfollowed := true, recurses := true, apart := false, narrowed := true }
def FnExactLowsOfUptoSaid : Prop := fnExactLowsOfUptoRow.holds Try.pinned (OpenSpec.upto fnExactLowsOfSpec)

/-- 'laws.FnExactCountFixed', WHERE WHAT IT READS IS OF BULK AT MOST 1048576: true; the input reads as it did. -/
def fnExactCountFixedUptoRow : OpenClaim := { program := "ytcnmnpbipencmaa", sum := "47f2148525e3f63cc9f0d74cdc2e9a0ba307c118f5e72dc035843b39dfcc1b48", func := "loop.example/g03101/laws.FnExactCountFixed", spec := "fnExactCountFixed", unfollowed := true, recurses := true, apart := false, narrowed := true }
def FnExactCountFixedUptoSaid : Prop := fnExactCountFixedUptoRow.holds Try.pinned (OpenSpec.upto fnExactCountFixedSpec)

/-- 'laws.FnExactCountRises', WHERE WHAT IT READS IS OF BULK AT MOST 1048576: true; the input reads as it did. -/
def fnExactCountRisesUptoRow : OpenClaim := { program := "ytcnmnpbipencmaa", sum := "47f2148525e3f63cc9f0d74cdc2e9a0ba307c118f5e72dc035843b39dfcc1b48", func := "loop.example/g03101/laws.FnExactCountRises", spec := "fnExactCountRises", unfollowed := true, recurses := true, apart := false, narrowed := true }
def FnExactCountRisesUptoSaid : Prop := fnExactCountRisesUptoRow.holds Try.pinned (OpenSpec.upto fnExactCountRisesSpec)

/-- 'laws.FnExactCountCycles', WHERE WHAT IT READS IS OF BULK AT MOST 1048576: true; the input reads as it did. -/
def fnExactCountCyclesUptoRow : OpenClaim := { program := "ytcnmnpbipencmaa", sum := "47f2148525e3f63cc9f0d74cdc2e9a0ba307c118f5e72dc035843b39dfcc1b48", func := "loop.example/g03101/laws.FnExactCountCycles", spec := "fnExactCountCycles", unfollowed := true, recurses := true, apart := false, narrowed := true }
def FnExactCountCyclesUptoSaid : Prop := fnExactCountCyclesUptoRow.holds Try.pinned (OpenSpec.upto fnExactCountCyclesSpec)

/-- 'laws.FnExactEulerRow', WHERE WHAT IT READS IS OF BULK AT MOST 1048576: true; the input reads as it did. -/
def fnExactEulerRowUptoRow : OpenClaim := { program := "ytcnmnpbipencmaa", sum := "47f2148525e3f63cc9f0d74cdc2e9a0ba307c118f5e72dc035843b39dfcc1b48", func := "loop.example/g03101/laws.FnExactEulerRow", spec := "fnExactEulerRow", apart := false, narrowed := true }
def FnExactEulerRowUptoSaid : Prop := fnExactEulerRowUptoRow.holds Try.pinned (OpenSpec.upto fnExactEulerRowSpec)

/-- 'laws.FnExactMahonRow', WHERE WHAT IT READS IS OF BULK AT MOST 1048576: true; the input reads as it did. -/
def fnExactMahonRowUptoRow : OpenClaim := { program := "ytcnmnpbipencmaa", sum := "47f2148525e3f63cc9f0d74cdc2e9a0ba307c118f5e72dc035843b39dfcc1b48", func := "loop.example/g03101/laws.FnExactMahonRow", spec := "fnExactMahonRow", apart := false, narrowed := true }
def FnExactMahonRowUptoSaid : Prop := fnExactMahonRowUptoRow.holds Try.pinned (OpenSpec.upto fnExactMahonRowSpec)

end Rows
end Go.Proofs.Ytcnmnpbipencmaa
