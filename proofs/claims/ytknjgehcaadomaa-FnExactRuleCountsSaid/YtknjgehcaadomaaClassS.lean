
/-
  spec.l7Has, spec.l12Avoids, spec.IsBasis, spec.InClass, by their contracts.
-/
import Derived.Test.YtknjgehcaadomaaClassM
import Derived.Test.YtknjgehcaadomaaOccF
import Derived.Test.YtknjgehcaadomaaCmp
import Derived.Test.YtknjgehcaadomaaSame
import Derived.Test.YtknjgehcaadomaaIntsS
import Derived.Test.YtknjgehcaadomaaPermS
import Derived.Deep.CutRange
import Derived.Deep.RegionHeld3
namespace Go.Proofs.Ytknjgehcaadomaa
set_option maxRecDepth 100000
open Go.RowKit

/-- A list of rows with a Boolean. -/
def GivesSSB (w : World) (zss : List (List Int)) (b : Bool) (e : Ending) (w' : World) : Prop := ∃ A c, e = .returned (.tuple #[.slice A zss.length c, .bool b]) ∧ IntsS w' w.heap.size (.slice A zss.length c) zss ∧ Below w.heap.size w w'
theorem GivesSSB.mk {w w' : World} {v : Value} {zss : List (List Int)} (b : Bool) (h : IntsS w' w.heap.size v zss) (hb : Below w.heap.size w w') : GivesSSB w zss b (.returned (.tuple #[v, .bool b])) w' := by
  obtain ⟨A, c, rfl⟩ := h.slice
  exact ⟨A, c, rfl, h, hb⟩
end Go.Proofs.Ytknjgehcaadomaa
