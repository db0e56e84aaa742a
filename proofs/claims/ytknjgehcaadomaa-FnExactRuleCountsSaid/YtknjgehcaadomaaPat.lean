
/-
  spec.PatternOf and impl.PatternOf, by their contracts.
-/
import Derived.Test.YtknjgehcaadomaaPermS
import Derived.Test.YtknjgehcaadomaaIsPerm
import Derived.Test.YtknjgehcaadomaaPermP
import Derived.IntWalk
namespace Go.Proofs.Ytknjgehcaadomaa
set_option maxRecDepth 100000
open Go.RowKit

theorem cnt_at {zs : List Int} {k : Nat} {x v : Int} (h : zs[k]? = some x) : cnt (zs.take (k + 1)) v = cnt (zs.take k) v + if x < v then 1 else 0 := by rw [take_snoc_i h, cnt_snoc]

end Go.Proofs.Ytknjgehcaadomaa
