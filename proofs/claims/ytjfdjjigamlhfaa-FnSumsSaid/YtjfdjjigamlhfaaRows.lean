/-
  No cell of these rows narrows 'for every input' (looked for: loops, veiled, ifaces, maps, wideKeys, modest, calm, conditions, laid).
  DERIVED. THE GIVEN ROWS OF THIS SEAT. 7 by the template 'for every input the law returns true; each argument reads behind the call as it read before'; 0 by the template 'total and deterministic' (their statements: YtjfdjjigamlhfaaTotals.lean).
  GIVEN WITH THE SEED: the statements are not yours to turn. If you find one false, say at which input.
  Laid BY PROGRAM, IN A SANDBOX (cutbox-rows.mjs): the forced cells as the released guide's own fill.sh prints them over the translation e0f0007dc050385c… (all of the seat's roots in one cut). By AI agents, Wed Nov 11 2026. No macro, syntax, notation, axiom, sorry.
-/
import Derived.Test.YtjfdjjigamlhfaaChecked
import GoSem.Claim
import GoSem.ClaimJoined
import GoSem.ClaimMapViews
import Derived.JoinedTies
import Derived.KernelRfl
namespace Go.Proofs.Ytjfdjjigamlhfaa
/- THE CELL 'sum', in the pinned program and in every row, IS THE sha256 OF THE DUMP (.gsa) THAT YtjfdjjigamlhfaaProg.lean LOADS. Nothing in Lean hashes anything: it is a label: what it is worth is what the hold of that sum in a sandbox is worth. -/
noncomputable def Try.pinned : Pinned := { name := "ytjfdjjigamlhfaa", sum := "e0f0007dc050385c42cfa5241f7a65e0254feef76416e1e3d76e24e31527c632", checked := Try.checked }
namespace Rows
def none {H : Type} : Left H := { results := [], args := [] }

/-- 'laws.FnExactSumOf': WHATEVER THE INPUT: true; the input reads as it did. -/
def fnExactSumOfSpec : ChangeSpec := { name := "fnExactSumOf", fn := fun _ => fun
  | [d1, d2] => { results := [.lit (.bool true)], args := [d1, d2] }
  | _ => none }
def fnExactSumOfRow : OpenClaim := { program := "ytjfdjjigamlhfaa", sum := "e0f0007dc050385c42cfa5241f7a65e0254feef76416e1e3d76e24e31527c632", func := "loop.example/g03101/laws.FnExactSumOf", spec := "fnExactSumOf", apart := false }
def FnExactSumOfSaid : Prop := fnExactSumOfRow.holds Try.pinned (OpenSpec.ofChange fnExactSumOfSpec)

/-- ITS FALSE NEIGHBOUR: 'it returns false'. Refute it at one input. -/
def fnExactSumOfWrong : ChangeSpec := { name := "fnExactSumOf", fn := fun _ => fun
  | [d1, d2] => { results := [.lit (.bool false)], args := [d1, d2] }
  | _ => none }
def FnExactSumOfWrongFalsely : Prop := fnExactSumOfRow.holds Try.pinned (OpenSpec.ofChange fnExactSumOfWrong)

/-- 'laws.FnExactSkewSumOf': WHATEVER THE INPUT: true; the input reads as it did. -/
def fnExactSkewSumOfSpec : ChangeSpec := { name := "fnExactSkewSumOf", fn := fun _ => fun
  | [d1, d2] => { results := [.lit (.bool true)], args := [d1, d2] }
  | _ => none }
def fnExactSkewSumOfRow : OpenClaim := { program := "ytjfdjjigamlhfaa", sum := "e0f0007dc050385c42cfa5241f7a65e0254feef76416e1e3d76e24e31527c632", func := "loop.example/g03101/laws.FnExactSkewSumOf", spec := "fnExactSkewSumOf", apart := false }
def FnExactSkewSumOfSaid : Prop := fnExactSkewSumOfRow.holds Try.pinned (OpenSpec.ofChange fnExactSkewSumOfSpec)

/-- ITS FALSE NEIGHBOUR: 'it returns false'. Refute it at one input. -/
def fnExactSkewSumOfWrong : ChangeSpec := { name := "fnExactSkewSumOf", fn := fun _ => fun
  | [d1, d2] => { results := [.lit (.bool false)], args := [d1, d2] }
  | _ => none }
def FnExactSkewSumOfWrongFalsely : Prop := fnExactSkewSumOfRow.holds Try.pinned (OpenSpec.ofChange fnExactSkewSumOfWrong)

/-- 'laws.FnExactSumParts': WHATEVER THE INPUT: true; the input reads as it did. -/
def fnExactSumPartsSpec : ChangeSpec := { name := "fnExactSumParts", fn := fun _ => fun
  | [d] => { results := [.lit (.bool true)], args := [d] }
  | _ => none }
def fnExactSumPartsRow : OpenClaim := { program := "ytjfdjjigamlhfaa", sum := "e0f0007dc050385c42cfa5241f7a65e0254feef76416e1e3d76e24e31527c632", func := "loop.example/g03101/laws.FnExactSumParts", spec := "fnExactSumParts", apart := false }
def FnExactSumPartsSaid : Prop := fnExactSumPartsRow.holds Try.pinned (OpenSpec.ofChange fnExactSumPartsSpec)

/-- ITS FALSE NEIGHBOUR: 'it returns false'. Refute it at one input. -/
def fnExactSumPartsWrong : ChangeSpec := { name := "fnExactSumParts", fn := fun _ => fun
  | [d] => { results := [.lit (.bool false)], args := [d] }
  | _ => none }
def FnExactSumPartsWrongFalsely : Prop := fnExactSumPartsRow.holds Try.pinned (OpenSpec.ofChange fnExactSumPartsWrong)

/-- 'laws.FnExactSkewParts': WHATEVER THE INPUT: true; the input reads as it did. -/
def fnExactSkewPartsSpec : ChangeSpec := { name := "fnExactSkewParts", fn := fun _ => fun
  | [d] => { results := [.lit (.bool true)], args := [d] }
  | _ => none }
def fnExactSkewPartsRow : OpenClaim := { program := "ytjfdjjigamlhfaa", sum := "e0f0007dc050385c42cfa5241f7a65e0254feef76416e1e3d76e24e31527c632", func := "loop.example/g03101/laws.FnExactSkewParts", spec := "fnExactSkewParts", apart := false }
def FnExactSkewPartsSaid : Prop := fnExactSkewPartsRow.holds Try.pinned (OpenSpec.ofChange fnExactSkewPartsSpec)

/-- ITS FALSE NEIGHBOUR: 'it returns false'. Refute it at one input. -/
def fnExactSkewPartsWrong : ChangeSpec := { name := "fnExactSkewParts", fn := fun _ => fun
  | [d] => { results := [.lit (.bool false)], args := [d] }
  | _ => none }
def FnExactSkewPartsWrongFalsely : Prop := fnExactSkewPartsRow.holds Try.pinned (OpenSpec.ofChange fnExactSkewPartsWrong)

/-- 'laws.FnExactJoinParts': WHATEVER THE INPUT: true; the input reads as it did. -/
def fnExactJoinPartsSpec : ChangeSpec := { name := "fnExactJoinParts", fn := fun _ => fun
  | [d1, d2] => { results := [.lit (.bool true)], args := [d1, d2] }
  | _ => none }
def fnExactJoinPartsRow : OpenClaim := { program := "ytjfdjjigamlhfaa", sum := "e0f0007dc050385c42cfa5241f7a65e0254feef76416e1e3d76e24e31527c632", func := "loop.example/g03101/laws.FnExactJoinParts", spec := "fnExactJoinParts", apart := false }
def FnExactJoinPartsSaid : Prop := fnExactJoinPartsRow.holds Try.pinned (OpenSpec.ofChange fnExactJoinPartsSpec)

/-- ITS FALSE NEIGHBOUR: 'it returns false'. Refute it at one input. -/
def fnExactJoinPartsWrong : ChangeSpec := { name := "fnExactJoinParts", fn := fun _ => fun
  | [d1, d2] => { results := [.lit (.bool false)], args := [d1, d2] }
  | _ => none }
def FnExactJoinPartsWrongFalsely : Prop := fnExactJoinPartsRow.holds Try.pinned (OpenSpec.ofChange fnExactJoinPartsWrong)

/-- 'laws.FnExactIsLayered': WHATEVER THE INPUT: true; the input reads as it did. -/
def fnExactIsLayeredSpec : ChangeSpec := { name := "fnExactIsLayered", fn := fun _ => fun
  | [d] => { results := [.lit (.bool true)], args := [d] }
  | _ => none }
def fnExactIsLayeredRow : OpenClaim := { program := "ytjfdjjigamlhfaa", sum := "e0f0007dc050385c42cfa5241f7a65e0254feef76416e1e3d76e24e31527c632", func := "loop.example/g03101/laws.FnExactIsLayered", spec := "fnExactIsLayered", apart := false }
def FnExactIsLayeredSaid : Prop := fnExactIsLayeredRow.holds Try.pinned (OpenSpec.ofChange fnExactIsLayeredSpec)

/-- ITS FALSE NEIGHBOUR: 'it returns false'. Refute it at one input. -/
def fnExactIsLayeredWrong : ChangeSpec := { name := "fnExactIsLayered", fn := fun _ => fun
  | [d] => { results := [.lit (.bool false)], args := [d] }
  | _ => none }
def FnExactIsLayeredWrongFalsely : Prop := fnExactIsLayeredRow.holds Try.pinned (OpenSpec.ofChange fnExactIsLayeredWrong)

/-- 'laws.FnSums': WHATEVER THE INPUT: true; the input reads as it did. -/
def fnSumsSpec : ChangeSpec := { name := "fnSums", fn := fun _ => fun
  | [d] => { results := [.lit (.bool true)], args := [d] }
  | _ => none }
def fnSumsRow : OpenClaim := { program := "ytjfdjjigamlhfaa", sum := "e0f0007dc050385c42cfa5241f7a65e0254feef76416e1e3d76e24e31527c632", func := "loop.example/g03101/laws.FnSums", spec := "fnSums", apart := false }
def FnSumsSaid : Prop := fnSumsRow.holds Try.pinned (OpenSpec.ofChange fnSumsSpec)

/-- ITS FALSE NEIGHBOUR: 'it returns false'. Refute it at one input. -/
def fnSumsWrong : ChangeSpec := { name := "fnSums", fn := fun _ => fun
  | [d] => { results := [.lit (.bool false)], args := [d] }
  | _ => none }
def FnSumsWrongFalsely : Prop := fnSumsRow.holds Try.pinned (OpenSpec.ofChange fnSumsWrong)

/- THE SECOND FORM. 'bulk': how many values and letters a reading holds, each counted each time it is reached (what is shared counts as often as it is met; a slice's spare places count too). A statement '..UptoSaid' is the law's where the arguments, and the package variables that the reading takes, are together of bulk at most 1048576: NARROWER than '..Said'. Prove '..Said' where nothing that the law and all that it calls make is longer than what came in: it says more and counts as full. Else prove '..UptoSaid'. A law counts once. -/
mutual
def uptoBulk {H : Type} : DataW H → Nat
  | .lit (.string bytes) => bytes.length + 1
  | .lit _ => 1
  | .nil => 1
  | .ptr d => uptoBulk d + 1
  | .slice elems spare => uptoBulkAll elems + uptoBulkAll spare + 1
  | .agg parts => uptoBulkAll parts + 1
  | .iface _ d => uptoBulk d + 1
  | .map entries => uptoBulkEntries entries + 1
  | .held _ => 1
def uptoBulkAll {H : Type} : List (DataW H) → Nat
  | [] => 0
  | d :: r => uptoBulk d + uptoBulkAll r
def uptoBulkEntries {H : Type} : List (Lit × DataW H) → Nat
  | [] => 0
  | x :: r => uptoBulkEntry x + uptoBulkEntries r
def uptoBulkEntry {H : Type} : Lit × DataW H → Nat
  | (.string bytes, d) => bytes.length + uptoBulk d + 1
  | (_, d) => uptoBulk d + 1
 end
def uptoSmall : (H : Type) → List (DataW H) → Bool := fun _ ds => decide (uptoBulkAll ds ≤ 1048576)
def OpenSpec.upto (s : _root_.Go.ChangeSpec) : _root_.Go.OpenSpec := { _root_.Go.OpenSpec.ofChange s with cond := some uptoSmall }

/-- 'laws.FnExactSumOf', WHERE WHAT IT READS IS OF BULK AT MOST 1048576: true; the input reads as it did. -/
def fnExactSumOfUptoRow : OpenClaim := { program := "ytjfdjjigamlhfaa", sum := "e0f0007dc050385c42cfa5241f7a65e0254feef76416e1e3d76e24e31527c632", func := "loop.example/g03101/laws.FnExactSumOf", spec := "fnExactSumOf", apart := false, narrowed := true }
def FnExactSumOfUptoSaid : Prop := fnExactSumOfUptoRow.holds Try.pinned (OpenSpec.upto fnExactSumOfSpec)

/-- 'laws.FnExactSkewSumOf', WHERE WHAT IT READS IS OF BULK AT MOST 1048576: true; the input reads as it did. -/
def fnExactSkewSumOfUptoRow : OpenClaim := { program := "ytjfdjjigamlhfaa", sum := "e0f0007dc050385c42cfa5241f7a65e0254feef76416e1e3d76e24e31527c632", func := "loop.example/g03101/laws.FnExactSkewSumOf", spec := "fnExactSkewSumOf", apart := false, narrowed := true }
def FnExactSkewSumOfUptoSaid : Prop := fnExactSkewSumOfUptoRow.holds Try.pinned (OpenSpec.upto fnExactSkewSumOfSpec)

/-- 'laws.FnExactSumParts', WHERE WHAT IT READS IS OF BULK AT MOST 1048576: true; the input reads as it did. -/
def fnExactSumPartsUptoRow : OpenClaim := { program := "ytjfdjjigamlhfaa", sum := "e0f0007dc050385c42cfa5241f7a65e0254feef76416e1e3d76e24e31527c632", func := "loop.example/g03101/laws.FnExactSumParts", spec := "fnExactSumParts", apart := false, narrowed := true }
def FnExactSumPartsUptoSaid : Prop := fnExactSumPartsUptoRow.holds Try.pinned (OpenSpec.upto fnExactSumPartsSpec)

/-- 'laws.FnExactSkewParts', WHERE WHAT IT READS IS OF BULK AT MOST 1048576: true; the input reads as it did. -/
def fnExactSkewPartsUptoRow : OpenClaim := { program := "ytjfdjjigamlhfaa", sum := "e0f0007dc050385c42cfa5241f7a65e0254feef76416e1e3d76e24e31527c632", func := "loop.example/g03101/laws.FnExactSkewParts", spec := "fnExactSkewParts", apart := false, narrowed := true }
def FnExactSkewPartsUptoSaid : Prop := fnExactSkewPartsUptoRow.holds Try.pinned (OpenSpec.upto fnExactSkewPartsSpec)

/-- 'laws.FnExactJoinParts', WHERE WHAT IT READS IS OF BULK AT MOST 1048576: true; the input reads as it did. -/
def fnExactJoinPartsUptoRow : OpenClaim := { program := "ytjfdjjigamlhfaa", sum := "e0f0007dc050385c42cfa5241f7a65e0254feef76416e1e3d76e24e31527c632", func := "loop.example/g03101/laws.FnExactJoinParts", spec := "fnExactJoinParts", apart := false, narrowed := true }
def FnExactJoinPartsUptoSaid : Prop := fnExactJoinPartsUptoRow.holds Try.pinned (OpenSpec.upto fnExactJoinPartsSpec)

/-- 'laws.FnExactIsLayered', WHERE WHAT IT READS IS OF BULK AT MOST 1048576: true; the input reads as it did. -/
def fnExactIsLayeredUptoRow : OpenClaim := { program := "ytjfdjjigamlhfaa", sum := "e0f0007dc050385c42cfa5241f7a65e0254feef76416e1e3d76e24e31527c632", func := "loop.example/g03101/laws.FnExactIsLayered", spec := "fnExactIsLayered", apart := false, narrowed := true }
def FnExactIsLayeredUptoSaid : Prop := fnExactIsLayeredUptoRow.holds Try.pinned (OpenSpec.upto fnExactIsLayeredSpec)

/-- 'laws.FnSums', WHERE WHAT IT READS IS OF BULK AT MOST 1048576: true; the input reads as it did. -/
def fnSumsUptoRow : OpenClaim := { program := "ytjfdjjigamlhfaa", sum := "e0f0007dc050385c42cfa5241f7a65e0254feef76416e1e3d76e24e31527c632", func := "loop.example/g03101/laws.FnSums", spec := "fnSums", apart := false, narrowed := true }
def FnSumsUptoSaid : Prop := fnSumsUptoRow.holds Try.pinned (OpenSpec.upto fnSumsSpec)

end Rows
end Go.Proofs.Ytjfdjjigamlhfaa
