
/-
  spec.l3All, by its contract.
-/
import Derived.Test.YtknjgehcaadomaaPermS
import Derived.Test.YtknjgehcaadomaaSymM
import Derived.Test.YtknjgehcaadomaaIntsS
namespace Go.Proofs.Ytknjgehcaadomaa
set_option maxRecDepth 100000
open Go.RowKit

end Go.Proofs.Ytknjgehcaadomaa
