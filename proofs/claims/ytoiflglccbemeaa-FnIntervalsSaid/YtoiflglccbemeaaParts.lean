
/-
  spec.l1Max; spec.SumParts, impl.SumParts, by their contracts.
-/
import Derived.Test.YtoiflglccbemeaaSumM
import Derived.Test.YtoiflglccbemeaaPush
import Derived.Test.YtoiflglccbemeaaPat
import Derived.Test.YtoiflglccbemeaaSame
namespace Go.Proofs.Ytoiflglccbemeaa
set_option maxRecDepth 100000
open Go.RowKit

theorem max_any (a b : Int) (w : World) : Calls Try.prog 40 #[.int .i64 a, .int .i64 b] w fun e w' => e = .returned (.int .i64 (max a b)) ∧ w' = w := by
  by_cases h : b < a
  · have e : max a b = a := by omega
    rw [e]
    go_enter Try.func40, Try.ntmps40
    go_wp2
    go_ret
    exact ⟨rfl, rfl⟩
  · have e : max a b = b := by omega
    rw [e]
    go_enter Try.func40, Try.ntmps40
    go_wp2
    go_ret
    exact ⟨rfl, rfl⟩
theorem most_range {p : List Int} (h : isP p = true) : ∀ k, 0 ≤ most (p.take k) ∧ most (p.take k) ≤ p.length := fun k => by
  induction k with
  | zero => simp [most]
  | succ k ih =>
    by_cases hk : k < p.length
    · have hz := at0_some hk
      have := isP_range h hz
      rw [most_take hz]; omega
    · rw [List.take_of_length_le (by omega)]
      rwa [List.take_of_length_le (by omega)] at ih

end Go.Proofs.Ytoiflglccbemeaa
