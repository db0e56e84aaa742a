
/-
  The first place of a list of rows at which a test holds: what slices.IndexFunc says.
-/
import Derived.Test.YtknjgehcaadomaaIntsS
namespace Go.Proofs.Ytknjgehcaadomaa
set_option maxRecDepth 100000
open Go.RowKit

/-- The first place at which f holds, or -1. -/
def FirstAt (w : World) (f : List Int → Bool) (zss : List (List Int)) (e : Ending) (w' : World) : Prop :=
  ∃ x : Int, e = .returned (.int .i64 x) ∧ ((x = -1 ∧ ∀ z ∈ zss, f z = false) ∨ ∃ (k : Nat) (z : List Int), x = (k : Int) ∧ zss[k]? = some z ∧ f z = true ∧ ∀ y ∈ zss.take k, f y = false) ∧ Below w.heap.size w w'
theorem no_step {f : List Int → Bool} {zss : List (List Int)} {k : Nat} {z : List Int} (h : zss[k]? = some z) (hf : f z = false) (hk : ∀ y ∈ zss.take k, f y = false) : ∀ y ∈ zss.take (k + 1), f y = false := fun y hy => by
  rw [List.take_add_one, h] at hy
  rcases List.mem_append.1 hy with hy | hy
  · exact hk y hy
  · simp at hy; subst hy; exact hf
end Go.Proofs.Ytknjgehcaadomaa
