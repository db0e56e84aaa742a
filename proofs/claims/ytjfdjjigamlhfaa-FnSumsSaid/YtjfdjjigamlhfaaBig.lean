
/-
  laws.big, by its contract.
-/
import Derived.Test.YtjfdjjigamlhfaaProg
import Derived.Test.YtjfdjjigamlhfaaMem
namespace Go.Proofs.Ytjfdjjigamlhfaa
open Go.RowKit
theorem big_any (A : Option Addr) (n c : Nat) (hn : n ≤ 9223372036854775807) (w : World) :
    Calls Try.prog 31 #[.slice A n c] w fun e w' => e = .returned (.bool (decide (1048576 < n))) ∧ w = w' := by
  go_enter Try.func31, Try.ntmps31
  go_wp2
  go_ret
  exact ⟨ret_bool (by simp; omega), rfl⟩
end Go.Proofs.Ytjfdjjigamlhfaa
