/-
  No cell of these rows narrows 'for every input' (looked for: loops, veiled, ifaces, maps, wideKeys, modest, calm, conditions, laid).
  DERIVED. THE GIVEN ROWS OF THIS SEAT. 9 by the template 'for every input the law returns true; each argument reads behind the call as it read before'; 0 by the template 'total and deterministic' (their statements: YtnnpefgbneldiaaTotals.lean).
  GIVEN WITH THE SEED: the statements are not yours to turn. If you find one false, say at which input.
  Laid BY PROGRAM, IN A SANDBOX (cutbox-rows.mjs): the forced cells as the released guide's own fill.sh prints them over the translation 8cc2fb082a0a26e7… (all of the seat's roots in one cut). By AI agents, Wed Nov 11 2026. No macro, syntax, notation, axiom, sorry.
-/
import Derived.Test.YtnnpefgbneldiaaChecked
import GoSem.Claim
import GoSem.ClaimJoined
import GoSem.ClaimMapViews
import Derived.JoinedTies
import Derived.KernelRfl
namespace Go.Proofs.Ytnnpefgbneldiaa
/- THE CELL 'sum', in the pinned program and in every row, IS THE sha256 OF THE DUMP (.gsa) THAT YtnnpefgbneldiaaProg.lean LOADS. Nothing in Lean hashes anything: it is a label: what it is worth is what the hold of that sum in a sandbox is worth. -/
noncomputable def Try.pinned : Pinned := { name := "ytnnpefgbneldiaa", sum := "8cc2fb082a0a26e7a8ba1d67a17e85e1920289560d5150d6cafcdc64285966ef", checked := Try.checked }
namespace Rows
def none {H : Type} : Left H := { results := [], args := [] }

/-- 'laws.FnRuns': WHATEVER THE INPUT: true; the input reads as it did. -/
def fnRunsSpec : ChangeSpec := { name := "fnRuns", fn := fun _ => fun
  | [d] => { results := [.lit (.bool true)], args := [d] }
  | _ => none }
def fnRunsRow : OpenClaim := { program := "ytnnpefgbneldiaa", sum := "8cc2fb082a0a26e7a8ba1d67a17e85e1920289560d5150d6cafcdc64285966ef", func := "loop.example/g03101/laws.FnRuns", spec := "fnRuns", unfollowed := true, recurses := true, plainKeys := false, apart := false }
def FnRunsSaid : Prop := fnRunsRow.holds Try.pinned (OpenSpec.ofChange fnRunsSpec)

/-- ITS FALSE NEIGHBOUR: 'it returns false'. Refute it at one input. -/
def fnRunsWrong : ChangeSpec := { name := "fnRuns", fn := fun _ => fun
  | [d] => { results := [.lit (.bool false)], args := [d] }
  | _ => none }
def FnRunsWrongFalsely : Prop := fnRunsRow.holds Try.pinned (OpenSpec.ofChange fnRunsWrong)

/-- 'laws.FnExactCountRuns': WHATEVER THE INPUT: true; the input reads as it did. -/
def fnExactCountRunsSpec : ChangeSpec := { name := "fnExactCountRuns", fn := fun _ => fun
  | [d1, d2] => { results := [.lit (.bool true)], args := [d1, d2] }
  | _ => none }
def fnExactCountRunsRow : OpenClaim := { program := "ytnnpefgbneldiaa", sum := "8cc2fb082a0a26e7a8ba1d67a17e85e1920289560d5150d6cafcdc64285966ef", func := "loop.example/g03101/laws.FnExactCountRuns", spec := "fnExactCountRuns", plainKeys := false, apart := false }
def FnExactCountRunsSaid : Prop := fnExactCountRunsRow.holds Try.pinned (OpenSpec.ofChange fnExactCountRunsSpec)

/-- ITS FALSE NEIGHBOUR: 'it returns false'. Refute it at one input. -/
def fnExactCountRunsWrong : ChangeSpec := { name := "fnExactCountRuns", fn := fun _ => fun
  | [d1, d2] => { results := [.lit (.bool false)], args := [d1, d2] }
  | _ => none }
def FnExactCountRunsWrongFalsely : Prop := fnExactCountRunsRow.holds Try.pinned (OpenSpec.ofChange fnExactCountRunsWrong)

/-- 'laws.FnExactAvoidRuns': WHATEVER THE INPUT: true; the input reads as it did. -/
def fnExactAvoidRunsSpec : ChangeSpec := { name := "fnExactAvoidRuns", fn := fun _ => fun
  | [d1, d2] => { results := [.lit (.bool true)], args := [d1, d2] }
  | _ => none }
def fnExactAvoidRunsRow : OpenClaim := { program := "ytnnpefgbneldiaa", sum := "8cc2fb082a0a26e7a8ba1d67a17e85e1920289560d5150d6cafcdc64285966ef", func := "loop.example/g03101/laws.FnExactAvoidRuns", spec := "fnExactAvoidRuns", recurses := true, plainKeys := false, apart := false }
def FnExactAvoidRunsSaid : Prop := fnExactAvoidRunsRow.holds Try.pinned (OpenSpec.ofChange fnExactAvoidRunsSpec)

/-- ITS FALSE NEIGHBOUR: 'it returns false'. Refute it at one input. -/
def fnExactAvoidRunsWrong : ChangeSpec := { name := "fnExactAvoidRuns", fn := fun _ => fun
  | [d1, d2] => { results := [.lit (.bool false)], args := [d1, d2] }
  | _ => none }
def FnExactAvoidRunsWrongFalsely : Prop := fnExactAvoidRunsRow.holds Try.pinned (OpenSpec.ofChange fnExactAvoidRunsWrong)

/-- 'laws.FnExactOverlapsOf': WHATEVER THE INPUT: true; the input reads as it did. -/
def fnExactOverlapsOfSpec : ChangeSpec := { name := "fnExactOverlapsOf", fn := fun _ => fun
  | [d] => { results := [.lit (.bool true)], args := [d] }
  | _ => none }
def fnExactOverlapsOfRow : OpenClaim := { program := "ytnnpefgbneldiaa", sum := "8cc2fb082a0a26e7a8ba1d67a17e85e1920289560d5150d6cafcdc64285966ef", func := "loop.example/g03101/laws.FnExactOverlapsOf", spec := "fnExactOverlapsOf", plainKeys := false, apart := false }
def FnExactOverlapsOfSaid : Prop := fnExactOverlapsOfRow.holds Try.pinned (OpenSpec.ofChange fnExactOverlapsOfSpec)

/-- ITS FALSE NEIGHBOUR: 'it returns false'. Refute it at one input. -/
def fnExactOverlapsOfWrong : ChangeSpec := { name := "fnExactOverlapsOf", fn := fun _ => fun
  | [d] => { results := [.lit (.bool false)], args := [d] }
  | _ => none }
def FnExactOverlapsOfWrongFalsely : Prop := fnExactOverlapsOfRow.holds Try.pinned (OpenSpec.ofChange fnExactOverlapsOfWrong)

/-- 'laws.FnExactIsLoose': WHATEVER THE INPUT: true; the input reads as it did. -/
def fnExactIsLooseSpec : ChangeSpec := { name := "fnExactIsLoose", fn := fun _ => fun
  | [d] => { results := [.lit (.bool true)], args := [d] }
  | _ => none }
def fnExactIsLooseRow : OpenClaim := { program := "ytnnpefgbneldiaa", sum := "8cc2fb082a0a26e7a8ba1d67a17e85e1920289560d5150d6cafcdc64285966ef", func := "loop.example/g03101/laws.FnExactIsLoose", spec := "fnExactIsLoose", plainKeys := false, apart := false }
def FnExactIsLooseSaid : Prop := fnExactIsLooseRow.holds Try.pinned (OpenSpec.ofChange fnExactIsLooseSpec)

/-- ITS FALSE NEIGHBOUR: 'it returns false'. Refute it at one input. -/
def fnExactIsLooseWrong : ChangeSpec := { name := "fnExactIsLoose", fn := fun _ => fun
  | [d] => { results := [.lit (.bool false)], args := [d] }
  | _ => none }
def FnExactIsLooseWrongFalsely : Prop := fnExactIsLooseRow.holds Try.pinned (OpenSpec.ofChange fnExactIsLooseWrong)

/-- 'laws.FnExactIsAlternating': WHATEVER THE INPUT: true; the input reads as it did. -/
def fnExactIsAlternatingSpec : ChangeSpec := { name := "fnExactIsAlternating", fn := fun _ => fun
  | [d] => { results := [.lit (.bool true)], args := [d] }
  | _ => none }
def fnExactIsAlternatingRow : OpenClaim := { program := "ytnnpefgbneldiaa", sum := "8cc2fb082a0a26e7a8ba1d67a17e85e1920289560d5150d6cafcdc64285966ef", func := "loop.example/g03101/laws.FnExactIsAlternating", spec := "fnExactIsAlternating", plainKeys := false, apart := false }
def FnExactIsAlternatingSaid : Prop := fnExactIsAlternatingRow.holds Try.pinned (OpenSpec.ofChange fnExactIsAlternatingSpec)

/-- ITS FALSE NEIGHBOUR: 'it returns false'. Refute it at one input. -/
def fnExactIsAlternatingWrong : ChangeSpec := { name := "fnExactIsAlternating", fn := fun _ => fun
  | [d] => { results := [.lit (.bool false)], args := [d] }
  | _ => none }
def FnExactIsAlternatingWrongFalsely : Prop := fnExactIsAlternatingRow.holds Try.pinned (OpenSpec.ofChange fnExactIsAlternatingWrong)

/-- 'laws.FnExactChoose': WHATEVER THE INPUT: true; the input reads as it did. -/
def fnExactChooseSpec : ChangeSpec := { name := "fnExactChoose", fn := fun _ => fun
  | [d1, d2] => { results := [.lit (.bool true)], args := [d1, d2] }
  | _ => none }
def fnExactChooseRow : OpenClaim := { program := "ytnnpefgbneldiaa", sum := "8cc2fb082a0a26e7a8ba1d67a17e85e1920289560d5150d6cafcdc64285966ef", func := "loop.example/g03101/laws.FnExactChoose", spec := "fnExactChoose", plainKeys := false, apart := false }
def FnExactChooseSaid : Prop := fnExactChooseRow.holds Try.pinned (OpenSpec.ofChange fnExactChooseSpec)

/-- ITS FALSE NEIGHBOUR: 'it returns false'. Refute it at one input. -/
def fnExactChooseWrong : ChangeSpec := { name := "fnExactChoose", fn := fun _ => fun
  | [d1, d2] => { results := [.lit (.bool false)], args := [d1, d2] }
  | _ => none }
def FnExactChooseWrongFalsely : Prop := fnExactChooseRow.holds Try.pinned (OpenSpec.ofChange fnExactChooseWrong)

/-- 'laws.FnExactCountAlternating': WHATEVER THE INPUT: true; the input reads as it did. -/
def fnExactCountAlternatingSpec : ChangeSpec := { name := "fnExactCountAlternating", fn := fun _ => fun
  | [d] => { results := [.lit (.bool true)], args := [d] }
  | _ => none }
def fnExactCountAlternatingRow : OpenClaim := { program := "ytnnpefgbneldiaa", sum := "8cc2fb082a0a26e7a8ba1d67a17e85e1920289560d5150d6cafcdc64285966ef", func := "loop.example/g03101/laws.FnExactCountAlternating", spec := "fnExactCountAlternating", unfollowed := true, recurses := true, plainKeys := false, apart := false }
def FnExactCountAlternatingSaid : Prop := fnExactCountAlternatingRow.holds Try.pinned (OpenSpec.ofChange fnExactCountAlternatingSpec)

/-- ITS FALSE NEIGHBOUR: 'it returns false'. Refute it at one input. -/
def fnExactCountAlternatingWrong : ChangeSpec := { name := "fnExactCountAlternating", fn := fun _ => fun
  | [d] => { results := [.lit (.bool false)], args := [d] }
  | _ => none }
def FnExactCountAlternatingWrongFalsely : Prop := fnExactCountAlternatingRow.holds Try.pinned (OpenSpec.ofChange fnExactCountAlternatingWrong)

/-- 'laws.FnMeshes': WHATEVER THE INPUT: true; the input reads as it did. -/
def fnMeshesSpec : ChangeSpec := { name := "fnMeshes", fn := fun _ => fun
  | [d] => { results := [.lit (.bool true)], args := [d] }
  | _ => none }
def fnMeshesRow : OpenClaim := { program := "ytnnpefgbneldiaa", sum := "8cc2fb082a0a26e7a8ba1d67a17e85e1920289560d5150d6cafcdc64285966ef", func := "loop.example/g03101/laws.FnMeshes", spec := "fnMeshes", unfollowed := true, recurses := true, plainKeys := false, apart := false }
def FnMeshesSaid : Prop := fnMeshesRow.holds Try.pinned (OpenSpec.ofChange fnMeshesSpec)

/-- ITS FALSE NEIGHBOUR: 'it returns false'. Refute it at one input. -/
def fnMeshesWrong : ChangeSpec := { name := "fnMeshes", fn := fun _ => fun
  | [d] => { results := [.lit (.bool false)], args := [d] }
  | _ => none }
def FnMeshesWrongFalsely : Prop := fnMeshesRow.holds Try.pinned (OpenSpec.ofChange fnMeshesWrong)

/- THE SECOND FORM. 'bulk': how many values and letters a reading holds, each counted each time it is reached (what is shared counts as often as it is met; a slice's spare places count too). A statement '..UptoSaid' is the law's where the arguments, and the package variables that the reading takes, are together of bulk at most 1048576: NARROWER than '..Said'. Prove '..Said' where nothing that the law and all that it calls make is longer than what came in: it says more and counts as full. Else prove '..UptoSaid'. A law counts once. -/
mutual
def uptoBulk {H : Type} : DataW H → Nat
  | .lit (.string bytes) => bytes.length + 1
  | .lit _ => 1
  | .nil => 1
  | .ptr d => uptoBulk d + 1
  | .slice elems spare => uptoBulkAll elems + uptoBulkAll spare + 1
  | .agg parts => uptoBulkAll parts + 1
  | .iface _ d => uptoBulk d + 1
  | .map entries => uptoBulkEntries entries + 1
  | .held _ => 1
def uptoBulkAll {H : Type} : List (DataW H) → Nat
  | [] => 0
  | d :: r => uptoBulk d + uptoBulkAll r
def uptoBulkEntries {H : Type} : List (Lit × DataW H) → Nat
  | [] => 0
  | x :: r => uptoBulkEntry x + uptoBulkEntries r
def uptoBulkEntry {H : Type} : Lit × DataW H → Nat
  | (.string bytes, d) => bytes.length + uptoBulk d + 1
  | (_, d) => uptoBulk d + 1
 end
def uptoSmall : (H : Type) → List (DataW H) → Bool := fun _ ds => decide (uptoBulkAll ds ≤ 1048576)
def OpenSpec.upto (s : _root_.Go.ChangeSpec) : _root_.Go.OpenSpec := { _root_.Go.OpenSpec.ofChange s with cond := some uptoSmall }

/-- 'laws.FnRuns', WHERE WHAT IT READS IS OF BULK AT MOST 1048576: true; the input reads as it did. -/
def fnRunsUptoRow : OpenClaim := { program := "ytnnpefgbneldiaa", sum := "8cc2fb082a0a26e7a8ba1d67a17e85e1920289560d5150d6cafcdc64285966ef", func := "loop.example/g03101/laws.FnRuns", spec := "fnRuns", unfollowed := true, recurses := true, plainKeys := false, apart := false, narrowed := true }
def FnRunsUptoSaid : Prop := fnRunsUptoRow.holds Try.pinned (OpenSpec.upto fnRunsSpec)

/-- 'laws.FnExactCountRuns', WHERE WHAT IT READS IS OF BULK AT MOST 1048576: true; the input reads as it did. -/
def fnExactCountRunsUptoRow : OpenClaim := { program := "ytnnpefgbneldiaa", sum := "8cc2fb082a0a26e7a8ba1d67a17e85e1920289560d5150d6cafcdc64285966ef", func := "loop.example/g03101/laws.FnExactCountRuns", spec := "fnExactCountRuns", plainKeys := false, apart := false, narrowed := true }
def FnExactCountRunsUptoSaid : Prop := fnExactCountRunsUptoRow.holds Try.pinned (OpenSpec.upto fnExactCountRunsSpec)

/-- 'laws.FnExactAvoidRuns', WHERE WHAT IT READS IS OF BULK AT MOST 1048576: true; the input reads as it did. -/
def fnExactAvoidRunsUptoRow : OpenClaim := { program := "ytnnpefgbneldiaa", sum := "8cc2fb082a0a26e7a8ba1d67a17e85e1920289560d5150d6cafcdc64285966ef", func := "loop.example/g03101/laws.FnExactAvoidRuns", spec := "fnExactAvoidRuns", recurses := true, plainKeys := false, apart := false, narrowed := true }
def FnExactAvoidRunsUptoSaid : Prop := fnExactAvoidRunsUptoRow.holds Try.pinned (OpenSpec.upto fnExactAvoidRunsSpec)

/-- 'laws.FnExactOverlapsOf', WHERE WHAT IT READS IS OF BULK AT MOST 1048576: true; the input reads as it did. -/
def fnExactOverlapsOfUptoRow : OpenClaim := { program := "ytnnpefgbneldiaa", sum := "8cc2fb082a0a26e7a8ba1d67a17e85e1920289560d5150d6cafcdc64285966ef", func := "loop.example/g03101/laws.FnExactOverlapsOf", spec := "fnExactOverlapsOf", plainKeys := false, apart := false, narrowed := true }
def FnExactOverlapsOfUptoSaid : Prop := fnExactOverlapsOfUptoRow.holds Try.pinned (OpenSpec.upto fnExactOverlapsOfSpec)

/-- 'laws.FnExactIsLoose', WHERE WHAT IT READS IS OF BULK AT MOST 1048576: true; the input reads as it did. -/
def fnExactIsLooseUptoRow : OpenClaim := { program := "ytnnpefgbneldiaa", sum := "8cc2fb082a0a26e7a8ba1d67a17e85e1920289560d5150d6cafcdc64285966ef", func := "loop.example/g03101/laws.FnExactIsLoose", spec := "fnExactIsLoose", plainKeys := false, apart := false, narrowed := true }
def FnExactIsLooseUptoSaid : Prop := fnExactIsLooseUptoRow.holds Try.pinned (OpenSpec.upto fnExactIsLooseSpec)

/-- 'laws.FnExactIsAlternating', WHERE WHAT IT READS IS OF BULK AT MOST 1048576: true; the input reads as it did. -/
def fnExactIsAlternatingUptoRow : OpenClaim := { program := "ytnnpefgbneldiaa", sum := "8cc2fb082a0a26e7a8ba1d67a17e85e1920289560d5150d6cafcdc64285966ef", func := "loop.example/g03101/laws.FnExactIsAlternating", spec := "fnExactIsAlternating", plainKeys := false, apart := false, narrowed := true }
def FnExactIsAlternatingUptoSaid : Prop := fnExactIsAlternatingUptoRow.holds Try.pinned (OpenSpec.upto fnExactIsAlternatingSpec)

/-- 'laws.FnExactChoose', WHERE WHAT IT READS IS OF BULK AT MOST 1048576: true; the input reads as it did. -/
def fnExactChooseUptoRow : OpenClaim := { program := "ytnnpefgbneldiaa", sum := "8cc2fb082a0a26e7a8ba1d67a17e85e1920289560d5150d6cafcdc64285966ef", func := "loop.example/g03101/laws.FnExactChoose", spec := "fnExactChoose", plainKeys := false, apart := false, narrowed := true }
def FnExactChooseUptoSaid : Prop := fnExactChooseUptoRow.holds Try.pinned (OpenSpec.upto fnExactChooseSpec)

/-- 'laws.FnExactCountAlternating', WHERE WHAT IT READS IS OF BULK AT MOST 1048576: true; the input reads as it did. -/
def fnExactCountAlternatingUptoRow : OpenClaim := { program := "ytnnpefgbneldiaa", sum := "8cc2fb082a0a26e7a8ba1d67a17e85e1920289560d5150d6cafcdc64285966ef", func := "loop.example/g03101/laws.FnExactCountAlternating", spec := "fnExactCountAlternating", unfollowed := true, recurses := true, plainKeys := false, apart := false, narrowed := true }
def FnExactCountAlternatingUptoSaid : Prop := fnExactCountAlternatingUptoRow.holds Try.pinned (OpenSpec.upto fnExactCountAlternatingSpec)

/-- 'laws.FnMeshes', WHERE WHAT IT READS IS OF BULK AT MOST 1048576: true; the input reads as it did. -/
def fnMeshesUptoRow : OpenClaim := { program := "ytnnpefgbneldiaa", sum := "8cc2fb082a0a26e7a8ba1d67a17e85e1920289560d5150d6cafcdc64285966ef", func := "loop.example/g03101/laws.FnMeshes", spec := "fnMeshes", unfollowed := true, recurses := true, plainKeys := false, apart := false, narrowed := true }
def FnMeshesUptoSaid : Prop := fnMeshesUptoRow.holds Try.pinned (OpenSpec.upto fnMeshesSpec)

end Rows
end Go.Proofs.Ytnnpefgbneldiaa
