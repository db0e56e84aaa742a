
/-
  spec.l1In, spec.l2Has and spec.IsPerm, by their contracts.
-/
import Derived.Test.YtknjgehcaadomaaProg
import Derived.Test.YtknjgehcaadomaaPermM
import Derived.Test.YtknjgehcaadomaaInts
import Derived.Deep.QuietTactic
import Derived.BigQuiet
namespace Go.Proofs.Ytknjgehcaadomaa
set_option maxRecDepth 100000
open Go.RowKit

theorem l1in_any (x lo hi : Int) (b : Bool) (hb : decide (lo ≤ x ∧ x ≤ hi) = b) (w : World) :
    Calls Try.prog 14 #[.int .i64 x, .int .i64 lo, .int .i64 hi] w fun e w' => e = .returned (.bool b) ∧ w' = w := by
  by_cases h1 : lo ≤ x
  · by_cases h2 : x ≤ hi
    · obtain rfl : b = true := by rw [← hb]; simp [h1, h2]
      clear hb
      go_enter Try.func14, Try.ntmps14
      go_wp2
      go_ret
      exact ⟨rfl, rfl⟩
    · obtain rfl : b = false := by rw [← hb]; simp [h2]
      clear hb
      go_enter Try.func14, Try.ntmps14
      go_wp2
      go_ret
      exact ⟨rfl, rfl⟩
  · obtain rfl : b = false := by rw [← hb]; simp [h1]
    clear hb
    go_enter Try.func14, Try.ntmps14
    go_wp2
    go_ret
    exact ⟨rfl, rfl⟩

theorem has_step {zs : List Int} {k : Nat} {y z : Int} (hz : zs[k]? = some y) (hne : y ≠ z) (h : z ∉ zs.take k) : z ∉ zs.take (k + 1) := by
  rw [take_snoc_i hz, List.mem_append, List.mem_singleton]
  rintro (h' | h')
  · exact h h'
  · exact hne h'.symm
theorem Reads.pre {w : World} {B n k : Nat} {A : Option Addr} {zs : List Int} (h : Reads w B A n (i64s zs)) (hk : k ≤ n) : Reads w B A k (i64s (zs.take k)) := by
  have hl : zs.length = n := by have := h.1; rwa [i64_length] at this
  refine ⟨by rw [i64_length, List.length_take]; omega, fun h0 => ?_⟩
  obtain ⟨ad, e, hb, hc⟩ := h.2 (by omega)
  refine ⟨ad, e, hb, fun j u hu => hc j u ?_⟩
  unfold i64s at hu ⊢
  rw [List.getElem?_map, List.getElem?_take] at hu
  rw [List.getElem?_map]
  by_cases hj : j < k
  · rwa [if_pos hj] at hu
  · rw [if_neg hj] at hu; cases hu
theorem Reads.len {w : World} {B n : Nat} {A : Option Addr} {zs : List Int} (h : Reads w B A n (i64s zs)) : zs.length = n := by have := h.1; rwa [i64_length] at this
theorem range_of {zs : List Int} {n : Nat} {z : Int} (hl : zs.length = n) (h : decide ((1 : Int) ≤ z ∧ z ≤ (n : Int)) = true) : 1 ≤ z ∧ z ≤ (zs.length : Int) := by rw [hl]; simpa using h
theorem range_not {zs : List Int} {n : Nat} {z : Int} (hl : zs.length = n) (h : decide ((1 : Int) ≤ z ∧ z ≤ (n : Int)) = false) : ¬ (1 ≤ z ∧ z ≤ (zs.length : Int)) := by rw [hl]; simpa using h

end Go.Proofs.Ytknjgehcaadomaa
