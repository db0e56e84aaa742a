/-
  No cell of these rows narrows 'for every input' (looked for: loops, veiled, ifaces, maps, wideKeys, modest, calm, conditions, laid).
  DERIVED. THE GIVEN ROWS OF THIS SEAT. 5 by the template 'for every input the law returns true; each argument reads behind the call as it read before'; 0 by the template 'total and deterministic' (their statements: YtabfjmabiapgoaaTotals.lean).
  GIVEN WITH THE SEED: the statements are not yours to turn. If you find one false, say at which input.
  Laid BY PROGRAM, IN A SANDBOX (cutbox-rows.mjs): the forced cells as the released guide's own fill.sh prints them over the translation e34281474f2fa2b0… (all of the seat's roots in one cut). By AI agents, Wed Nov 11 2026. No macro, syntax, notation, axiom, sorry.
-/
import Derived.Test.YtabfjmabiapgoaaChecked
import GoSem.Claim
import GoSem.ClaimJoined
import GoSem.ClaimMapViews
import Derived.JoinedTies
import Derived.KernelRfl
namespace Go.Proofs.Ytabfjmabiapgoaa
/- THE CELL 'sum', in the pinned program and in every row, IS THE sha256 OF THE DUMP (.gsa) THAT YtabfjmabiapgoaaProg.lean LOADS. Nothing in Lean hashes anything: it is a label: what it is worth is what the hold of that sum in a sandbox is worth. -/
noncomputable def Try.pinned : Pinned := { name := "ytabfjmabiapgoaa", sum := "e34281474f2fa2b06b963f22476096d2443809db79342283a2c29ac2e51b719a", checked := Try.checked }
namespace Rows
def none {H : Type} : Left H := { results := [], args := [] }

/-- 'laws.FnExactIsNear': WHATEVER THE INPUT: true; the input reads as it did. -/
def fnExactIsNearSpec : ChangeSpec := { name := "fnExactIsNear", fn := fun _ => fun
  | [d] => { results := [.lit (.bool true)], args := [d] }
  | _ => none }
def fnExactIsNearRow : OpenClaim := { program := "ytabfjmabiapgoaa", sum := "e34281474f2fa2b06b963f22476096d2443809db79342283a2c29ac2e51b719a", func := "loop.example/g03101/laws.FnExactIsNear", spec := "fnExactIsNear", apart := false }
def FnExactIsNearSaid : Prop := fnExactIsNearRow.holds Try.pinned (OpenSpec.ofChange fnExactIsNearSpec)

/-- ITS FALSE NEIGHBOUR: 'it returns false'. Refute it at one input. -/
def fnExactIsNearWrong : ChangeSpec := { name := "fnExactIsNear", fn := fun _ => fun
  | [d] => { results := [.lit (.bool false)], args := [d] }
  | _ => none }
def FnExactIsNearWrongFalsely : Prop := fnExactIsNearRow.holds Try.pinned (OpenSpec.ofChange fnExactIsNearWrong)

/-- 'laws.FnExactCountNear': WHATEVER THE INPUT: true; the input reads as it did. -/
def fnExactCountNearSpec : ChangeSpec := { name := "fnExactCountNear", fn := fun _ => fun
  | [d1, d2] => { results := [.lit (.bool true)], args := [d1, d2] }
  | _ => none }
def fnExactCountNearRow : OpenClaim := { program := "ytabfjmabiapgoaa", sum := "e34281474f2fa2b06b963f22476096d2443809db79342283a2c29ac2e51b719a", func := "loop.example/g03101/laws.FnExactCountNear", spec := "fnExactCountNear", unfollowed := true, recurses := true, apart := false }
def FnExactCountNearSaid : Prop := fnExactCountNearRow.holds Try.pinned (OpenSpec.ofChange fnExactCountNearSpec)

/-- ITS FALSE NEIGHBOUR: 'it returns false'. Refute it at one input. -/
def fnExactCountNearWrong : ChangeSpec := { name := "fnExactCountNear", fn := fun _ => fun
  | [d1, d2] => { results := [.lit (.bool false)], args := [d1, d2] }
  | _ => none }
def FnExactCountNearWrongFalsely : Prop := fnExactCountNearRow.holds Try.pinned (OpenSpec.ofChange fnExactCountNearWrong)

/-- 'laws.FnExactNearText': WHATEVER THE INPUT: true; the input reads as it did. -/
def fnExactNearTextSpec : ChangeSpec := { name := "fnExactNearText", fn := fun _ => fun
  | [d] => { results := [.lit (.bool true)], args := [d] }
  | _ => none }
def fnExactNearTextRow : OpenClaim := { program := "ytabfjmabiapgoaa", sum := "e34281474f2fa2b06b963f22476096d2443809db79342283a2c29ac2e51b719a", func := "loop.example/g03101/laws.FnExactNearText", spec := "fnExactNearText", apart := false }
def FnExactNearTextSaid : Prop := fnExactNearTextRow.holds Try.pinned (OpenSpec.ofChange fnExactNearTextSpec)

/-- ITS FALSE NEIGHBOUR: 'it returns false'. Refute it at one input. -/
def fnExactNearTextWrong : ChangeSpec := { name := "fnExactNearText", fn := fun _ => fun
  | [d] => { results := [.lit (.bool false)], args := [d] }
  | _ => none }
def FnExactNearTextWrongFalsely : Prop := fnExactNearTextRow.holds Try.pinned (OpenSpec.ofChange fnExactNearTextWrong)

/-- 'laws.FnExactReverseNear': WHATEVER THE INPUT: true; the input reads as it did. -/
def fnExactReverseNearSpec : ChangeSpec := { name := "fnExactReverseNear", fn := fun _ => fun
  | [d] => { results := [.lit (.bool true)], args := [d] }
  | _ => none }
def fnExactReverseNearRow : OpenClaim := { program := "ytabfjmabiapgoaa", sum := "e34281474f2fa2b06b963f22476096d2443809db79342283a2c29ac2e51b719a", func := "loop.example/g03101/laws.FnExactReverseNear", spec := "fnExactReverseNear", unfollowed := true, recurses := true, apart := false }
def FnExactReverseNearSaid : Prop := fnExactReverseNearRow.holds Try.pinned (OpenSpec.ofChange fnExactReverseNearSpec)

/-- ITS FALSE NEIGHBOUR: 'it returns false'. Refute it at one input. -/
def fnExactReverseNearWrong : ChangeSpec := { name := "fnExactReverseNear", fn := fun _ => fun
  | [d] => { results := [.lit (.bool false)], args := [d] }
  | _ => none }
def FnExactReverseNearWrongFalsely : Prop := fnExactReverseNearRow.holds Try.pinned (OpenSpec.ofChange fnExactReverseNearWrong)

/-- 'laws.FnExactConsecutiveOf': WHATEVER THE INPUT: true; the input reads as it did. -/
def fnExactConsecutiveOfSpec : ChangeSpec := { name := "fnExactConsecutiveOf", fn := fun _ => fun
  | [d] => { results := [.lit (.bool true)], args := [d] }
  | _ => none }
def fnExactConsecutiveOfRow : OpenClaim := { program := "ytabfjmabiapgoaa", sum := "e34281474f2fa2b06b963f22476096d2443809db79342283a2c29ac2e51b719a", func := "loop.example/g03101/laws.FnExactConsecutiveOf", spec := "fnExactConsecutiveOf", apart := false }
def FnExactConsecutiveOfSaid : Prop := fnExactConsecutiveOfRow.holds Try.pinned (OpenSpec.ofChange fnExactConsecutiveOfSpec)

/-- ITS FALSE NEIGHBOUR: 'it returns false'. Refute it at one input. -/
def fnExactConsecutiveOfWrong : ChangeSpec := { name := "fnExactConsecutiveOf", fn := fun _ => fun
  | [d] => { results := [.lit (.bool false)], args := [d] }
  | _ => none }
def FnExactConsecutiveOfWrongFalsely : Prop := fnExactConsecutiveOfRow.holds Try.pinned (OpenSpec.ofChange fnExactConsecutiveOfWrong)

/- THE SECOND FORM. 'bulk': how many values and letters a reading holds, each counted each time it is reached (what is shared counts as often as it is met; a slice's spare places count too). A statement '..UptoSaid' is the law's where the arguments, and the package variables that the reading takes, are together of bulk at most 1048576: NARROWER than '..Said'. Prove '..Said' where nothing that the law and all that it calls make is longer than what came in: it says more and counts as full. Else prove '..UptoSaid'. A law counts once. -/
mutual
def uptoBulk {H : Type} : DataW H → Nat
  | .lit (.string bytes) => bytes.length + 1
  | .lit _ => 1
  | .nil => 1
  | .ptr d => uptoBulk d + 1
  | .slice elems spare => uptoBulkAll elems + uptoBulkAll spare + 1
  | .agg parts => uptoBulkAll parts + 1
  | .iface _ d => uptoBulk d + 1
  | .map entries => uptoBulkEntries entries + 1
  | .held _ => 1
def uptoBulkAll {H : Type} : List (DataW H) → Nat
  | [] => 0
  | d :: r => uptoBulk d + uptoBulkAll r
def uptoBulkEntries {H : Type} : List (Lit × DataW H) → Nat
  | [] => 0
  | x :: r => uptoBulkEntry x + uptoBulkEntries r
def uptoBulkEntry {H : Type} : Lit × DataW H → Nat
  | (.string bytes, d) => bytes.length + uptoBulk d + 1
  | (_, d) => uptoBulk d + 1
 end
def uptoSmall : (H : Type) → List (DataW H) → Bool := fun _ ds => decide (uptoBulkAll ds ≤ 1048576)
def OpenSpec.upto (s : _root_.Go.ChangeSpec) : _root_.Go.OpenSpec := { _root_.Go.OpenSpec.ofChange s with cond := some uptoSmall }

/-- 'laws.FnExactIsNear', WHERE WHAT IT READS IS OF BULK AT MOST 1048576: true; the input reads as it did. -/
def fnExactIsNearUptoRow : OpenClaim := { program := "ytabfjmabiapgoaa", sum := "e34281474f2fa2b06b963f22476096d2443809db79342283a2c29ac2e51b719a", func := "loop.example/g03101/laws.FnExactIsNear", spec := "fnExactIsNear", apart := false, narrowed := true }
def FnExactIsNearUptoSaid : Prop := fnExactIsNearUptoRow.holds Try.pinned (OpenSpec.upto fnExactIsNearSpec)

/-- 'laws.FnExactCountNear', WHERE WHAT IT READS IS OF BULK AT MOST 1048576: true; the input reads as it did. -/
def fnExactCountNearUptoRow : OpenClaim := { program := "ytabfjmabiapgoaa", sum := "e34281474f2fa2b06b963f22476096d2443809db79342283a2c29ac2e51b719a", func := "loop.example/g03101/laws.FnExactCountNear", spec := "fnExactCountNear", unfollowed := true, recurses := true, apart := false, narrowed := true }
def FnExactCountNearUptoSaid : Prop := fnExactCountNearUptoRow.holds Try.pinned (OpenSpec.upto fnExactCountNearSpec)

/-- 'laws.FnExactNearText', WHERE WHAT IT READS IS OF BULK AT MOST 1048576: true; the input reads as it did. -/
def fnExactNearTextUptoRow : OpenClaim := { program := "ytabfjmabiapgoaa", sum := "e34281474f2fa2b06b963f22476096d2443809db79342283a2c29ac2e51b719a", func := "loop.example/g03101/laws.FnExactNearText", spec := "fnExactNearText", apart := false, narrowed := true }
def FnExactNearTextUptoSaid : Prop := fnExactNearTextUptoRow.holds Try.pinned (OpenSpec.upto fnExactNearTextSpec)

/-- 'laws.FnExactReverseNear', WHERE WHAT IT READS IS OF BULK AT MOST 1048576: true; the input reads as it did. -/
def fnExactReverseNearUptoRow : OpenClaim := { program := "ytabfjmabiapgoaa", sum := "e34281474f2fa2b06b963f22476096d2443809db79342283a2c29ac2e51b719a", func := "loop.example/g03101/laws.FnExactReverseNear", spec := "fnExactReverseNear", unfollowed := true, recurses := true, apart := false, narrowed := true }
def FnExactReverseNearUptoSaid : Prop := fnExactReverseNearUptoRow.holds Try.pinned (OpenSpec.upto fnExactReverseNearSpec)

/-- 'laws.FnExactConsecutiveOf', WHERE WHAT IT READS IS OF BULK AT MOST 1048576: true; the input reads as it did. -/
def fnExactConsecutiveOfUptoRow : OpenClaim := { program := "ytabfjmabiapgoaa", sum := "e34281474f2fa2b06b963f22476096d2443809db79342283a2c29ac2e51b719a", func := "loop.example/g03101/laws.FnExactConsecutiveOf", spec := "fnExactConsecutiveOf", apart := false, narrowed := true }
def FnExactConsecutiveOfUptoSaid : Prop := fnExactConsecutiveOfUptoRow.holds Try.pinned (OpenSpec.upto fnExactConsecutiveOfSpec)

end Rows
end Go.Proofs.Ytabfjmabiapgoaa
