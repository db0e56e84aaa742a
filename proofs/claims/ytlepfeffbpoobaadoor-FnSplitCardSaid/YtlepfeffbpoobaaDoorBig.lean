/-
  laws.big, by its contract.
-/
import Derived.Test.YtlepfeffbpoobaaDoorProg
import Derived.Test.YtlepfeffbpoobaaDoorMem
namespace Go.Proofs.YtlepfeffbpoobaaDoor
open Go.RowKit
theorem big_any (A : Option Addr) (n c : Nat) (hn : n ≤ 9223372036854775807) (w : World) :
    Calls Tryd.prog 9 #[.slice A n c] w fun e w' => e = .returned (.bool (decide (1048576 < n))) ∧ w = w' := by
  go_enter Tryd.func9, Tryd.ntmps9
  go_wp2
  go_ret
  exact ⟨ret_bool (by simp; omega), rfl⟩
end Go.Proofs.YtlepfeffbpoobaaDoor
