
/-
  spec.l3Reverse, spec.l3Complement, spec.ReversePerm, spec.ComplementPerm; slices.Clone, impl.ComplementPerm, by their contracts.
-/
import Derived.Test.YtknjgehcaadomaaPermS
import Derived.Test.YtknjgehcaadomaaIsPerm
import Derived.Test.YtknjgehcaadomaaSymM
import Derived.Lib.SliceRun
namespace Go.Proofs.Ytknjgehcaadomaa
set_option maxRecDepth 100000
open Go.RowKit

theorem rev_step {zs : List Int} {k : Nat} {z : Int} (h : zs[k]? = some z) : (zs.drop k).reverse = (zs.drop (k + 1)).reverse ++ [z] := by
  have hk : k < zs.length := (List.getElem?_eq_some_iff.1 h).1
  rw [List.drop_eq_getElem_cons hk, List.reverse_cons]
  rw [List.getElem?_eq_getElem hk] at h
  rw [Option.some.inj h]
theorem i64_snoc (xs : List Int) (z : Int) : i64s xs ++ [Value.int .i64 z] = i64s (xs ++ [z]) := by unfold i64s; simp
end Go.Proofs.Ytknjgehcaadomaa
