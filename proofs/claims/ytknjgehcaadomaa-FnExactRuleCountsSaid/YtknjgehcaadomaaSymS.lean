
/-
  spec.l3Symmetry and spec.SymmetryOf, by their contracts.
-/
import Derived.Test.YtknjgehcaadomaaRev
import Derived.Test.YtknjgehcaadomaaSame
import Derived.Test.YtknjgehcaadomaaApp
namespace Go.Proofs.Ytknjgehcaadomaa
set_option maxRecDepth 100000
open Go.RowKit

end Go.Proofs.Ytknjgehcaadomaa
