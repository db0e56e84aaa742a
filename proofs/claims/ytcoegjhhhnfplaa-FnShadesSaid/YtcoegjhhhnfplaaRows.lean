/-
  No cell of these rows narrows 'for every input' (looked for: loops, veiled, ifaces, maps, wideKeys, modest, calm, conditions, laid).
  DERIVED. THE GIVEN ROWS OF THIS SEAT. 7 by the template 'for every input the law returns true; each argument reads behind the call as it read before'; 0 by the template 'total and deterministic' (their statements: YtcoegjhhhnfplaaTotals.lean).
  GIVEN WITH THE SEED: the statements are not yours to turn. If you find one false, say at which input.
  Laid BY PROGRAM, IN A SANDBOX (cutbox-rows.mjs): the forced cells as the released guide's own fill.sh prints them over the translation 77ee5c9905fa0c6c… (all of the seat's roots in one cut). By AI agents, Wed Nov 11 2026. No macro, syntax, notation, axiom, sorry.
-/
import Derived.Test.YtcoegjhhhnfplaaChecked
import GoSem.Claim
import GoSem.ClaimJoined
import GoSem.ClaimMapViews
import Derived.JoinedTies
import Derived.KernelRfl
namespace Go.Proofs.Ytcoegjhhhnfplaa
/- THE CELL 'sum', in the pinned program and in every row, IS THE sha256 OF THE DUMP (.gsa) THAT YtcoegjhhhnfplaaProg.lean LOADS. Nothing in Lean hashes anything: it is a label: what it is worth is what the hold of that sum in a sandbox is worth. -/
noncomputable def Try.pinned : Pinned := { name := "ytcoegjhhhnfplaa", sum := "77ee5c9905fa0c6c68c8758d11b2b8c67fa5023a826e06b21603eb999ecdedbe", checked := Try.checked }
namespace Rows
def none {H : Type} : Left H := { results := [], args := [] }

/-- 'laws.FnMeshes': WHATEVER THE INPUT: true; the input reads as it did. -/
def fnMeshesSpec : ChangeSpec := { name := "fnMeshes", fn := fun _ => fun
  | [d] => { results := [.lit (.bool true)], args := [d] }
  | _ => none }
def fnMeshesRow : OpenClaim := { program := "ytcoegjhhhnfplaa", sum := "77ee5c9905fa0c6c68c8758d11b2b8c67fa5023a826e06b21603eb999ecdedbe", func := "loop.example/g03101/laws.FnMeshes", spec := "fnMeshes", unfollowed := true, recurses := true, plainKeys := false, apart := false }
def FnMeshesSaid : Prop := fnMeshesRow.holds Try.pinned (OpenSpec.ofChange fnMeshesSpec)

/-- ITS FALSE NEIGHBOUR: 'it returns false'. Refute it at one input. -/
def fnMeshesWrong : ChangeSpec := { name := "fnMeshes", fn := fun _ => fun
  | [d] => { results := [.lit (.bool false)], args := [d] }
  | _ => none }
def FnMeshesWrongFalsely : Prop := fnMeshesRow.holds Try.pinned (OpenSpec.ofChange fnMeshesWrong)

/-- 'laws.FnShades': WHATEVER THE INPUT: true; the input reads as it did. -/
def fnShadesSpec : ChangeSpec := { name := "fnShades", fn := fun _ => fun
  | [d] => { results := [.lit (.bool true)], args := [d] }
  | _ => none }
def fnShadesRow : OpenClaim := { program := "ytcoegjhhhnfplaa", sum := "77ee5c9905fa0c6c68c8758d11b2b8c67fa5023a826e06b21603eb999ecdedbe", func := "loop.example/g03101/laws.FnShades", spec := "fnShades", inPlace := ["maps.clone"], unfollowed := true, recurses := true, plainKeys := false, apart := false }
def FnShadesSaid : Prop := fnShadesRow.holds Try.pinned (OpenSpec.ofChange fnShadesSpec)

/-- ITS FALSE NEIGHBOUR: 'it returns false'. Refute it at one input. -/
def fnShadesWrong : ChangeSpec := { name := "fnShades", fn := fun _ => fun
  | [d] => { results := [.lit (.bool false)], args := [d] }
  | _ => none }
def FnShadesWrongFalsely : Prop := fnShadesRow.holds Try.pinned (OpenSpec.ofChange fnShadesWrong)

/-- 'laws.FnExactIsMesh': WHATEVER THE INPUT: true; the input reads as it did. -/
def fnExactIsMeshSpec : ChangeSpec := { name := "fnExactIsMesh", fn := fun _ => fun
  | [d] => { results := [.lit (.bool true)], args := [d] }
  | _ => none }
def fnExactIsMeshRow : OpenClaim := { program := "ytcoegjhhhnfplaa", sum := "77ee5c9905fa0c6c68c8758d11b2b8c67fa5023a826e06b21603eb999ecdedbe", func := "loop.example/g03101/laws.FnExactIsMesh", spec := "fnExactIsMesh", plainKeys := false, apart := false }
def FnExactIsMeshSaid : Prop := fnExactIsMeshRow.holds Try.pinned (OpenSpec.ofChange fnExactIsMeshSpec)

/-- ITS FALSE NEIGHBOUR: 'it returns false'. Refute it at one input. -/
def fnExactIsMeshWrong : ChangeSpec := { name := "fnExactIsMesh", fn := fun _ => fun
  | [d] => { results := [.lit (.bool false)], args := [d] }
  | _ => none }
def FnExactIsMeshWrongFalsely : Prop := fnExactIsMeshRow.holds Try.pinned (OpenSpec.ofChange fnExactIsMeshWrong)

/-- 'laws.FnExactCountMesh': WHATEVER THE INPUT: true; the input reads as it did. -/
def fnExactCountMeshSpec : ChangeSpec := { name := "fnExactCountMesh", fn := fun _ => fun
  | [d1, d2] => { results := [.lit (.bool true)], args := [d1, d2] }
  | _ => none }
def fnExactCountMeshRow : OpenClaim := { program := "ytcoegjhhhnfplaa", sum := "77ee5c9905fa0c6c68c8758d11b2b8c67fa5023a826e06b21603eb999ecdedbe", func := "loop.example/g03101/laws.FnExactCountMesh", spec := "fnExactCountMesh", unfollowed := true, recurses := true, plainKeys := false, apart := false }
def FnExactCountMeshSaid : Prop := fnExactCountMeshRow.holds Try.pinned (OpenSpec.ofChange fnExactCountMeshSpec)

/-- ITS FALSE NEIGHBOUR: 'it returns false'. Refute it at one input. -/
def fnExactCountMeshWrong : ChangeSpec := { name := "fnExactCountMesh", fn := fun _ => fun
  | [d1, d2] => { results := [.lit (.bool false)], args := [d1, d2] }
  | _ => none }
def FnExactCountMeshWrongFalsely : Prop := fnExactCountMeshRow.holds Try.pinned (OpenSpec.ofChange fnExactCountMeshWrong)

/-- 'laws.FnExactMeshOf': WHATEVER THE INPUT: true; the input reads as it did. -/
def fnExactMeshOfSpec : ChangeSpec := { name := "fnExactMeshOf", fn := fun _ => fun
  | [d] => { results := [.lit (.bool true)], args := [d] }
  | _ => none }
def fnExactMeshOfRow : OpenClaim := { program := "ytcoegjhhhnfplaa", sum := "77ee5c9905fa0c6c68c8758d11b2b8c67fa5023a826e06b21603eb999ecdedbe", func := "loop.example/g03101/laws.FnExactMeshOf", spec := "fnExactMeshOf", plainKeys := false, apart := false }
def FnExactMeshOfSaid : Prop := fnExactMeshOfRow.holds Try.pinned (OpenSpec.ofChange fnExactMeshOfSpec)

/-- ITS FALSE NEIGHBOUR: 'it returns false'. Refute it at one input. -/
def fnExactMeshOfWrong : ChangeSpec := { name := "fnExactMeshOf", fn := fun _ => fun
  | [d] => { results := [.lit (.bool false)], args := [d] }
  | _ => none }
def FnExactMeshOfWrongFalsely : Prop := fnExactMeshOfRow.holds Try.pinned (OpenSpec.ofChange fnExactMeshOfWrong)

/-- 'laws.FnExactInverseMesh': WHATEVER THE INPUT: true; the input reads as it did. -/
def fnExactInverseMeshSpec : ChangeSpec := { name := "fnExactInverseMesh", fn := fun _ => fun
  | [d] => { results := [.lit (.bool true)], args := [d] }
  | _ => none }
def fnExactInverseMeshRow : OpenClaim := { program := "ytcoegjhhhnfplaa", sum := "77ee5c9905fa0c6c68c8758d11b2b8c67fa5023a826e06b21603eb999ecdedbe", func := "loop.example/g03101/laws.FnExactInverseMesh", spec := "fnExactInverseMesh", unfollowed := true, recurses := true, plainKeys := false, apart := false }
def FnExactInverseMeshSaid : Prop := fnExactInverseMeshRow.holds Try.pinned (OpenSpec.ofChange fnExactInverseMeshSpec)

/-- ITS FALSE NEIGHBOUR: 'it returns false'. Refute it at one input. -/
def fnExactInverseMeshWrong : ChangeSpec := { name := "fnExactInverseMesh", fn := fun _ => fun
  | [d] => { results := [.lit (.bool false)], args := [d] }
  | _ => none }
def FnExactInverseMeshWrongFalsely : Prop := fnExactInverseMeshRow.holds Try.pinned (OpenSpec.ofChange fnExactInverseMeshWrong)

/-- 'laws.FnExactCanShade': WHATEVER THE INPUT: true; the input reads as it did. -/
def fnExactCanShadeSpec : ChangeSpec := { name := "fnExactCanShade", fn := fun _ => fun
  | [d1, d2, d3] => { results := [.lit (.bool true)], args := [d1, d2, d3] }
  | _ => none }
def fnExactCanShadeRow : OpenClaim := { program := "ytcoegjhhhnfplaa", sum := "77ee5c9905fa0c6c68c8758d11b2b8c67fa5023a826e06b21603eb999ecdedbe", func := "loop.example/g03101/laws.FnExactCanShade", spec := "fnExactCanShade", inPlace := ["maps.clone"], unfollowed := true, recurses := true, plainKeys := false, apart := false }
def FnExactCanShadeSaid : Prop := fnExactCanShadeRow.holds Try.pinned (OpenSpec.ofChange fnExactCanShadeSpec)

/-- ITS FALSE NEIGHBOUR: 'it returns false'. Refute it at one input. -/
def fnExactCanShadeWrong : ChangeSpec := { name := "fnExactCanShade", fn := fun _ => fun
  | [d1, d2, d3] => { results := [.lit (.bool false)], args := [d1, d2, d3] }
  | _ => none }
def FnExactCanShadeWrongFalsely : Prop := fnExactCanShadeRow.holds Try.pinned (OpenSpec.ofChange fnExactCanShadeWrong)

/- THE SECOND FORM. 'bulk': how many values and letters a reading holds, each counted each time it is reached (what is shared counts as often as it is met; a slice's spare places count too). A statement '..UptoSaid' is the law's where the arguments, and the package variables that the reading takes, are together of bulk at most 1048576: NARROWER than '..Said'. Prove '..Said' where nothing that the law and all that it calls make is longer than what came in: it says more and counts as full. Else prove '..UptoSaid'. A law counts once. -/
mutual
def uptoBulk {H : Type} : DataW H → Nat
  | .lit (.string bytes) => bytes.length + 1
  | .lit _ => 1
  | .nil => 1
  | .ptr d => uptoBulk d + 1
  | .slice elems spare => uptoBulkAll elems + uptoBulkAll spare + 1
  | .agg parts => uptoBulkAll parts + 1
  | .iface _ d => uptoBulk d + 1
  | .map entries => uptoBulkEntries entries + 1
  | .held _ => 1
def uptoBulkAll {H : Type} : List (DataW H) → Nat
  | [] => 0
  | d :: r => uptoBulk d + uptoBulkAll r
def uptoBulkEntries {H : Type} : List (Lit × DataW H) → Nat
  | [] => 0
  | x :: r => uptoBulkEntry x + uptoBulkEntries r
def uptoBulkEntry {H : Type} : Lit × DataW H → Nat
  | (.string bytes, d) => bytes.length + uptoBulk d + 1
  | (_, d) => uptoBulk d + 1
 end
def uptoSmall : (H : Type) → List (DataW H) → Bool := fun _ ds => decide (uptoBulkAll ds ≤ 1048576)
def OpenSpec.upto (s : _root_.Go.ChangeSpec) : _root_.Go.OpenSpec := { _root_.Go.OpenSpec.ofChange s with cond := some uptoSmall }

/-- 'laws.FnMeshes', WHERE WHAT IT READS IS OF BULK AT MOST 1048576: true; the input reads as it did. -/
def fnMeshesUptoRow : OpenClaim := { program := "ytcoegjhhhnfplaa", sum := "77ee5c9905fa0c6c68c8758d11b2b8c67fa5023a826e06b21603eb999ecdedbe", func := "loop.example/g03101/laws.FnMeshes", spec := "fnMeshes", unfollowed := true, recurses := true, plainKeys := false, apart := false, narrowed := true }
def FnMeshesUptoSaid : Prop := fnMeshesUptoRow.holds Try.pinned (OpenSpec.upto fnMeshesSpec)

/-- 'laws.FnShades', WHERE WHAT IT READS IS OF BULK AT MOST 1048576: true; the input reads as it did. -/
def fnShadesUptoRow : OpenClaim := { program := "ytcoegjhhhnfplaa", sum := "77ee5c9905fa0c6c68c8758d11b2b8c67fa5023a826e06b21603eb999ecdedbe", func := "loop.example/g03101/laws.FnShades", spec := "fnShades", inPlace := ["maps.clone"], unfollowed := true, recurses := true, plainKeys := false, apart := false, narrowed := true }
def FnShadesUptoSaid : Prop := fnShadesUptoRow.holds Try.pinned (OpenSpec.upto fnShadesSpec)

/-- 'laws.FnExactIsMesh', WHERE WHAT IT READS IS OF BULK AT MOST 1048576: true; the input reads as it did. -/
def fnExactIsMeshUptoRow : OpenClaim := { program := "ytcoegjhhhnfplaa", sum := "77ee5c9905fa0c6c68c8758d11b2b8c67fa5023a826e06b21603eb999ecdedbe", func := "loop.example/g03101/laws.FnExactIsMesh", spec := "fnExactIsMesh", plainKeys := false, apart := false, narrowed := true }
def FnExactIsMeshUptoSaid : Prop := fnExactIsMeshUptoRow.holds Try.pinned (OpenSpec.upto fnExactIsMeshSpec)

/-- 'laws.FnExactCountMesh', WHERE WHAT IT READS IS OF BULK AT MOST 1048576: true; the input reads as it did. -/
def fnExactCountMeshUptoRow : OpenClaim := { program := "ytcoegjhhhnfplaa", sum := "77ee5c9905fa0c6c68c8758d11b2b8c67fa5023a826e06b21603eb999ecdedbe", func := "loop.example/g03101/laws.FnExactCountMesh", spec := "fnExactCountMesh", unfollowed := true, recurses := true, plainKeys := false, apart := false, narrowed := true }
def FnExactCountMeshUptoSaid : Prop := fnExactCountMeshUptoRow.holds Try.pinned (OpenSpec.upto fnExactCountMeshSpec)

/-- 'laws.FnExactMeshOf', WHERE WHAT IT READS IS OF BULK AT MOST 1048576: true; the input reads as it did. -/
def fnExactMeshOfUptoRow : OpenClaim := { program := "ytcoegjhhhnfplaa", sum := "77ee5c9905fa0c6c68c8758d11b2b8c67fa5023a826e06b21603eb999ecdedbe", func := "loop.example/g03101/laws.FnExactMeshOf", spec := "fnExactMeshOf", plainKeys := false, apart := false, narrowed := true }
def FnExactMeshOfUptoSaid : Prop := fnExactMeshOfUptoRow.holds Try.pinned (OpenSpec.upto fnExactMeshOfSpec)

/-- 'laws.FnExactInverseMesh', WHERE WHAT IT READS IS OF BULK AT MOST 1048576: true; the input reads as it did. -/
def fnExactInverseMeshUptoRow : OpenClaim := { program := "ytcoegjhhhnfplaa", sum := "77ee5c9905fa0c6c68c8758d11b2b8c67fa5023a826e06b21603eb999ecdedbe", func := "loop.example/g03101/laws.FnExactInverseMesh", spec := "fnExactInverseMesh", unfollowed := true, recurses := true, plainKeys := false, apart := false, narrowed := true }
def FnExactInverseMeshUptoSaid : Prop := fnExactInverseMeshUptoRow.holds Try.pinned (OpenSpec.upto fnExactInverseMeshSpec)

/-- 'laws.FnExactCanShade', WHERE WHAT IT READS IS OF BULK AT MOST 1048576: true; the input reads as it did. -/
def fnExactCanShadeUptoRow : OpenClaim := { program := "ytcoegjhhhnfplaa", sum := "77ee5c9905fa0c6c68c8758d11b2b8c67fa5023a826e06b21603eb999ecdedbe", func := "loop.example/g03101/laws.FnExactCanShade", spec := "fnExactCanShade", inPlace := ["maps.clone"], unfollowed := true, recurses := true, plainKeys := false, apart := false, narrowed := true }
def FnExactCanShadeUptoSaid : Prop := fnExactCanShadeUptoRow.holds Try.pinned (OpenSpec.upto fnExactCanShadeSpec)

end Rows
end Go.Proofs.Ytcoegjhhhnfplaa
