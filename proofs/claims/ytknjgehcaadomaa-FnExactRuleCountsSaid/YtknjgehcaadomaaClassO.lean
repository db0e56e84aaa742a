
/-
  spec.ClassOf and spec.MakeBasis, by their contracts.
-/
import Derived.Test.YtknjgehcaadomaaClassS
import Derived.Test.YtknjgehcaadomaaSift
import Derived.Test.YtknjgehcaadomaaFill
import Derived.Test.YtknjgehcaadomaaOrdS
namespace Go.Proofs.Ytknjgehcaadomaa
set_option maxRecDepth 100000
open Go.RowKit

theorem clsO_no {L : List (List Int)} {m : Int} (h : ¬ (basis L = true ∧ 0 ≤ m ∧ m ≤ 6)) : clsO L m = [] := by unfold clsO; rw [if_neg h]
theorem clsO_yes {L : List (List Int)} {k : Nat} (h : basis L = true) (hk : k ≤ 6) : clsO L (k : Int) = sift (avo L) (permL k) (permL k).length := by
  unfold clsO
  rw [if_pos ⟨h, by omega, by omega⟩, sift_all, Int.toNat_natCast]
  rfl
theorem permL_isPm : ∀ n : Nat, n ≤ 6 → ∀ z ∈ permL n, isP z = true := by decide +kernel
end Go.Proofs.Ytknjgehcaadomaa
