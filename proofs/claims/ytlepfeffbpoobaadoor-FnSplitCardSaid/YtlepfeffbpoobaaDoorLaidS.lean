/-
  One world in which the tables of unicode/utf8 are laid (for the witness).
-/
import Derived.Test.YtlepfeffbpoobaaDoorLaid
namespace Go.Proofs.YtlepfeffbpoobaaDoor
open Go.ChangeShapes Go.WideShapes Go.ChangeAt Go.RowKit

/-- A datum as cells, one after the other. -/
noncomputable def flat1 : DataW Unit → List Value
  | .lit (.int k z) => [.int k z]
  | _ => []
noncomputable def flat2 : DataW Unit → List Value
  | .lit (.int k z) => [.int k z]
  | .agg xs => xs.flatMap flat1
  | _ => []
noncomputable def flat : DataW Unit → List Value
  | .agg xs => xs.flatMap flat2
  | _ => []
noncomputable def laidWorldS (os : Os) : World :=
  { World.holding Tryd.prog os ⟨#[], #[], []⟩ with heap := ((World.holding Tryd.prog os ⟨#[], #[], []⟩).heap.modify 5 (onCells (flat Rows.laid_unicode_utf8_acceptRanges).toArray)).modify 4 (onCells (flat Rows.laid_unicode_utf8_first).toArray) }
end Go.Proofs.YtlepfeffbpoobaaDoor
