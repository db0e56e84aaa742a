
/-
  spec.PatternsIn, by its contract.
-/
import Derived.Test.YtknjgehcaadomaaLowS
import Derived.Test.YtknjgehcaadomaaOccS
import Derived.Laws.BitsLemmas
namespace Go.Proofs.Ytknjgehcaadomaa
set_option maxRecDepth 100000
open Go.RowKit

/-- The numbers at those of the first k indices whose bit is set. -/
def subK (p : List Int) (s : Nat) : Nat → List Int
  | 0 => []
  | k + 1 => if s.testBit k then subK p s k ++ [at0 p k] else subK p s k
theorem subK_len (p : List Int) (s : Nat) : ∀ k, (subK p s k).length ≤ k
  | 0 => Nat.le_refl _
  | k + 1 => by
    have := subK_len p s k
    rw [subK]; split <;> simp <;> omega
/-- The patterns of length k of the first s sets of indices, in order. -/
def patK (p : List Int) (k : Int) : Nat → List (List Int)
  | 0 => []
  | s + 1 => if ((subK p s p.length).length : Int) = k then putL (patK p k s) (patL (subK p s p.length)) else patK p k s
def patsOK (p : List Int) (k : Int) : Bool := isP p && decide (0 ≤ k ∧ k ≤ (p.length : Int))
def patsR (p : List Int) (k : Int) : List (List Int) := if patsOK p k then patK p k (2 ^ p.length) else []

theorem bit_test (s k : Nat) (hs : s ≤ 256) : (bits .and .i64 ((s : Int) / 2 ^ k) 1 == 1) = s.testBit k := by
  have h0 : (s : Int) / 2 ^ k = ((s / 2 ^ k : Nat) : Int) := by push_cast; rfl
  have hle : s / 2 ^ k ≤ s := Nat.div_le_self _ _
  have h1 : bits .and .i64 ((s / 2 ^ k : Nat) : Int) 1 = ((s / 2 ^ k % 2 : Nat) : Int) := by
    have := bits_mask .i64 63 (by decide) (fun n h0 h1 => by rw [IntKind.wrap_i64]; omega) 1 (by decide) ((s / 2 ^ k : Nat) : Int) (Int.natCast_nonneg _) (Int.lt_of_le_of_lt (Int.ofNat_le.2 hle) (by omega))
    simpa using this
  rw [h0, h1, Nat.testBit_eq_decide_div_mod_eq]
  by_cases h : s / 2 ^ k % 2 = 1
  · rw [h]; rfl
  · have h2 : s / 2 ^ k % 2 = 0 := by omega
    rw [h2]; rfl
theorem patK_len (p : List Int) (k : Int) : ∀ s, (patK p k s).length ≤ s
  | 0 => Nat.le_refl _
  | s + 1 => by
    have h1 := patK_len p k s
    have h2 := (putL_len (patK p k s) (patL (subK p s p.length))).2
    rw [patK]; split <;> omega
theorem subK_sub (p : List Int) (s : Nat) : ∀ k, k ≤ p.length → (subK p s k).Sublist (p.take k)
  | 0, _ => by simp [subK]
  | k + 1, hk => by
    have ih := subK_sub p s k (by omega)
    rw [take_snoc_i (at0_some (show k < p.length by omega)), subK]
    split
    · exact ih.append (List.Sublist.refl _)
    · exact ih.trans (List.sublist_append_left _ _)
theorem subK_isP {p : List Int} (hp : isP p = true) (s : Nat) : isP (patL (subK p s p.length)) = true := by
  have h := subK_sub p s p.length (Nat.le_refl _)
  rw [List.take_length] at h
  rw [isP_pat]
  exact patOK_yes (Nat.le_trans h.length_le (isP_le hp)) ((isP_true.1 hp).2.2.sublist h)
theorem patK_all {p : List Int} (hp : isP p = true) (k : Int) : ∀ s, ∀ z ∈ patK p k s, isP z = true
  | 0, z, hz => by simp [patK] at hz
  | s + 1, z, hz => by
    rw [patK] at hz
    split at hz
    · rcases mem_putL.1 hz with hz | rfl
      · exact patK_all hp k s z hz
      · exact subK_isP hp s
    · exact patK_all hp k s z hz
theorem patK_yes {p : List Int} {k : Int} {s : Nat} (h : ((subK p s p.length).length : Int) = k) : patK p k (s + 1) = putL (patK p k s) (patL (subK p s p.length)) := by rw [patK, if_pos h]
theorem patK_no {p : List Int} {k : Int} {s : Nat} (h : ¬ ((subK p s p.length).length : Int) = k) : patK p k (s + 1) = patK p k s := by rw [patK, if_neg h]
theorem patsR_yes {p : List Int} {k : Int} (h : patsOK p k = true) : patsR p k = patK p k (2 ^ p.length) := by unfold patsR; rw [if_pos h]
theorem patsR_no {p : List Int} {k : Int} (h : patsOK p k = false) : patsR p k = [] := by unfold patsR; rw [if_neg (by simp [h])]

end Go.Proofs.Ytknjgehcaadomaa
