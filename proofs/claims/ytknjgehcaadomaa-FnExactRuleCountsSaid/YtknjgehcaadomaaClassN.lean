
/-
  spec.l12Next, by its contract.
-/
import Derived.Test.YtknjgehcaadomaaClassP
import Derived.Test.YtknjgehcaadomaaClassO
import Derived.Test.YtknjgehcaadomaaPat
namespace Go.Proofs.Ytknjgehcaadomaa
set_option maxRecDepth 100000
open Go.RowKit

theorem keep_low2 {B : Nat} {wr w : World} {p q : Addr} {u v : Value} (h1 : wr.cell? p = some u) (h2 : wr.cell? q = some v) (l1 : p.block < B) (l2 : q.block < B) (hb : Below B wr w) : w.cell? p = some u ∧ w.cell? q = some v ∧ Below B wr w := ⟨(hb.cell l1).trans h1, (hb.cell l2).trans h2, hb⟩
/-- The next level, its first k rows whole. -/
def nxtK (L : List (List Int)) (zl : List (List Int)) (K k : Nat) : List (List Int) := (zl.take k).flatMap fun z => (nxAll K z).filter (avo L)
theorem nxtK_zero (L zl : List (List Int)) (K : Nat) : nxtK L zl K 0 = [] := by simp [nxtK]
theorem nxtK_step {L zl : List (List Int)} {K k : Nat} {z : List Int} (h : zl[k]? = some z) : nxtK L zl K (k + 1) = nxtK L zl K k ++ sift (avo L) (nxAll K z) K := by
  unfold nxtK
  rw [List.take_add_one, h, List.flatMap_append]
  unfold sift
  rw [show (nxAll K z).take K = nxAll K z from List.take_of_length_le (by simp [nxAll])]
  simp
theorem nxtK_le (L zl : List (List Int)) (K : Nat) : ∀ k, (nxtK L zl K k).length ≤ k * K
  | 0 => by rw [nxtK_zero]; simp
  | k + 1 => by
    have ih := nxtK_le L zl K k
    by_cases hk : k < zl.length
    · rw [nxtK_step (List.getElem?_eq_getElem hk), List.length_append, Nat.add_mul]
      have := sift_le (avo L) (nxAll K zl[k]) K
      omega
    · have e : nxtK L zl K (k + 1) = nxtK L zl K k := by unfold nxtK; rw [List.take_of_length_le (by omega), List.take_of_length_le (by omega)]
      rw [e]
      exact Nat.le_trans ih (Nat.mul_le_mul_right _ (by omega))
theorem nxAll_at {K m : Nat} {z : List Int} (h : m < K) : (nxAll K z)[m]? = some (nxP z ((m : Int) + 1)) := by unfold nxAll; rw [List.getElem?_map, List.getElem?_range h]; rfl
theorem map_up_step {z : List Int} {v x : Int} {i : Nat} (h : z[i]? = some x) : (z.map (up v)).take i ++ [up v x] = (z.map (up v)).take (i + 1) := (take_snoc_i (by rw [List.getElem?_map, h]; rfl)).symm
end Go.Proofs.Ytknjgehcaadomaa
