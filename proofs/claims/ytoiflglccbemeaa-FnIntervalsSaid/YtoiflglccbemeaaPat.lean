
/-
  spec.PatternOf and impl.PatternOf, by their contracts.
-/
import Derived.Test.YtoiflglccbemeaaPermS
import Derived.Test.YtoiflglccbemeaaIsPerm
import Derived.Test.YtoiflglccbemeaaPermP
import Derived.IntWalk
namespace Go.Proofs.Ytoiflglccbemeaa
set_option maxRecDepth 100000
open Go.RowKit

theorem bit_true (w : World) : Calls Try.prog 42 #[.bool true] w fun e w' => e = .returned (.int .i64 1) ∧ w' = w := by
  go_enter Try.func42, Try.ntmps42
  go_wp2
  go_ret
  exact ⟨rfl, rfl⟩
theorem bit_false (w : World) : Calls Try.prog 42 #[.bool false] w fun e w' => e = .returned (.int .i64 0) ∧ w' = w := by
  go_enter Try.func42, Try.ntmps42
  go_wp2
  go_ret
  exact ⟨rfl, rfl⟩
theorem cnt_at {zs : List Int} {k : Nat} {x v : Int} (h : zs[k]? = some x) : cnt (zs.take (k + 1)) v = cnt (zs.take k) v + if x < v then 1 else 0 := by rw [take_snoc_i h, cnt_snoc]

end Go.Proofs.Ytoiflglccbemeaa
