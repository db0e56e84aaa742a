
/-
  spec.l7Without, spec.WithoutPlace, spec.LowersOf, by their contracts.
-/
import Derived.Test.YtknjgehcaadomaaOccM
import Derived.Test.YtknjgehcaadomaaPermS
import Derived.Test.YtknjgehcaadomaaPat
import Derived.Test.YtknjgehcaadomaaPut
import Derived.Test.YtknjgehcaadomaaPush
import Derived.Deep.RegionHeld3
namespace Go.Proofs.Ytknjgehcaadomaa
set_option maxRecDepth 100000
open Go.RowKit

theorem place_nat' {n : Nat} {x : Int} (h : 1 ≤ x ∧ x ≤ (n : Int)) : ∃ X : Nat, x = ((X + 1 : Nat) : Int) ∧ X < n := ⟨x.toNat - 1, by omega, by omega⟩
/-- A list without the number at index k. -/
def cutAt (p : List Int) (k : Nat) : List Int := p.take k ++ p.drop (k + 1)
theorem cutAt_len {p : List Int} {k : Nat} (h : k < p.length) : (cutAt p k).length + 1 = p.length := by
  unfold cutAt
  rw [List.length_append, List.length_take, List.length_drop]; omega
theorem cutAt_sub (p : List Int) (k : Nat) : (cutAt p k).Sublist p := by
  have h : (p.take k ++ p.drop (k + 1)).Sublist (p.take k ++ p.drop k) := (List.Sublist.refl _).append (by
    rw [← List.drop_drop]; exact List.drop_sublist _ _)
  rwa [List.take_append_drop] at h
theorem cutAt_isP {p : List Int} (hp : isP p = true) (k : Nat) : isP (patL (cutAt p k)) = true := by
  rw [isP_pat]
  have h := isP_true.1 hp
  exact patOK_yes (Nat.le_trans (cutAt_sub p k).length_le (isP_le hp)) (h.2.2.sublist (cutAt_sub p k))

def wplOK (p : List Int) (x : Int) : Bool := isP p && decide (1 ≤ x ∧ x ≤ (p.length : Int))
def wplR (p : List Int) (x : Int) : List Int := if wplOK p x then patL (cutAt p (x.toNat - 1)) else []
theorem wplR_yes {p : List Int} {x : Int} (h : wplOK p x = true) : wplR p x = patL (cutAt p (x.toNat - 1)) := by unfold wplR; rw [if_pos h]
theorem wplR_no {p : List Int} {x : Int} (h : wplOK p x = false) : wplR p x = [] := by unfold wplR; rw [if_neg (by simp [h])]
theorem wplR_le (p : List Int) (x : Int) : (wplR p x).length ≤ 8 := by
  cases h : wplOK p x with
  | false => rw [wplR_no h]; exact Nat.zero_le _
  | true =>
    have hp : isP p = true := by unfold wplOK at h; simp at h; exact h.1
    rw [wplR_yes h]
    exact isP_le (cutAt_isP hp _)
/-- The patterns without one of the first k indices, in order. -/
def lowK (p : List Int) (k : Nat) : List (List Int) := ((List.range k).map fun i => patL (cutAt p i)).foldl putL []
theorem lowK_step (p : List Int) (k : Nat) : lowK p (k + 1) = putL (lowK p k) (patL (cutAt p k)) := by
  unfold lowK
  rw [List.range_succ, List.map_append, List.foldl_append]; rfl
theorem lowK_all {p : List Int} (hp : isP p = true) : ∀ k, ∀ z ∈ lowK p k, isP z = true
  | 0, z, hz => by simp [lowK] at hz
  | k + 1, z, hz => by
    rw [lowK_step, mem_putL] at hz
    rcases hz with hz | rfl
    · exact lowK_all hp k z hz
    · exact cutAt_isP hp k
theorem lowK_len (p : List Int) : ∀ k, (lowK p k).length ≤ k
  | 0 => by simp [lowK]
  | k + 1 => by
    have h1 := lowK_len p k
    have h2 := (putL_len (lowK p k) (patL (cutAt p k))).2
    rw [lowK_step]; omega
def lowR (p : List Int) : List (List Int) := if isP p then lowK p p.length else []
theorem lowR_yes {p : List Int} (h : isP p = true) : lowR p = lowK p p.length := by unfold lowR; rw [if_pos h]
theorem lowR_no {p : List Int} (h : isP p = false) : lowR p = [] := by unfold lowR; rw [if_neg (by simp [h])]
end Go.Proofs.Ytknjgehcaadomaa
