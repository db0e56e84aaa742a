
/-
  PLAIN: the list of all permutations of a length, made in two ways. Nothing here speaks of the program.
-/
import Derived.Test.YtknjgehcaadomaaPermM
import Derived.Test.YtknjgehcaadomaaPermF
namespace Go.Proofs.Ytknjgehcaadomaa
set_option maxRecDepth 100000

/-- All ways to go on from hd with d more of the numbers 1 to n. -/
def fillL (n : Nat) : Nat → List Int → List (List Int)
  | 0, hd => [hd]
  | d + 1, hd => (upTo n).flatMap fun v => if v ∈ hd then [] else fillL n d (hd ++ [v])
theorem fillL_zero (n : Nat) (hd : List Int) : fillL n 0 hd = [hd] := rfl
/-- .. with the next one among the first k numbers. -/
def fillK (n d : Nat) (hd : List Int) (k : Nat) : List (List Int) := (upTo k).flatMap fun v => if v ∈ hd then [] else fillL n d (hd ++ [v])
theorem fillK_zero (n d : Nat) (hd : List Int) : fillK n d hd 0 = [] := rfl
theorem fillK_all (n d : Nat) (hd : List Int) : fillK n d hd n = fillL n (d + 1) hd := rfl
theorem fillK_in {n d k : Nat} {hd : List Int} (h : (k : Int) + 1 ∈ hd) : fillK n d hd (k + 1) = fillK n d hd k := by
  unfold fillK
  rw [upTo_step, List.flatMap_append, List.flatMap_cons, List.flatMap_nil, if_pos h]
  simp
theorem fillK_out {n d k : Nat} {hd : List Int} (h : (k : Int) + 1 ∉ hd) : fillK n d hd (k + 1) = fillK n d hd k ++ fillL n d (hd ++ [(k : Int) + 1]) := by
  unfold fillK
  rw [upTo_step, List.flatMap_append, List.flatMap_cons, List.flatMap_nil, if_neg h]
  simp
/-- f ahead of r, whose numbers from f on are raised. -/
def up (f v : Int) : Int := if f ≤ v then v + 1 else v
def behind (f : Int) (r : List Int) : List Int := f :: r.map (up f)
def permL : Nat → List (List Int)
  | 0 => [[]]
  | n + 1 => (upTo (n + 1)).flatMap fun f => (permL n).map (behind f)
def permK (n j : Nat) : List (List Int) := (upTo j).flatMap fun f => (permL n).map (behind f)
theorem permK_all (n : Nat) : permK n (n + 1) = permL (n + 1) := rfl
theorem permK_step (n j : Nat) : permK n (j + 1) = permK n j ++ (permL n).map (behind ((j : Int) + 1)) := by
  unfold permK
  rw [upTo_step, List.flatMap_append, List.flatMap_cons, List.flatMap_nil]
  simp
def permI (n j i : Nat) : List (List Int) := permK n j ++ ((permL n).take i).map (behind ((j : Int) + 1))
theorem permI_zero (n j : Nat) : permI n j 0 = permK n j := by simp [permI]
theorem permI_all (n j : Nat) : permI n j (permL n).length = permK n (j + 1) := by
  unfold permI
  rw [permK_step, List.take_of_length_le (Nat.le_refl _)]
theorem permI_step {n j i : Nat} {r : List Int} (h : (permL n)[i]? = some r) : permI n j (i + 1) = permI n j i ++ [behind ((j : Int) + 1) r] := by
  unfold permI
  rw [List.take_add_one, h, List.map_append, ← List.append_assoc]
  rfl
theorem fillK_mono (n d : Nat) (hd : List Int) (k j : Nat) : (fillK n d hd k).length ≤ (fillK n d hd (k + j)).length := by
  induction j with
  | zero => exact Nat.le_refl _
  | succ j ih =>
    refine Nat.le_trans ih ?_
    by_cases h : ((k + j : Nat) : Int) + 1 ∈ hd
    · rw [← Nat.add_assoc, fillK_in h]; exact Nat.le_refl _
    · rw [← Nat.add_assoc, fillK_out h, List.length_append]; omega
theorem permK_length (n : Nat) : ∀ j, (permK n j).length = j * (permL n).length
  | 0 => by simp [permK, upTo]
  | j + 1 => by rw [permK_step, List.length_append, permK_length n j, List.length_map, Nat.add_mul, Nat.one_mul]
theorem permI_length (n j i : Nat) (h : i ≤ (permL n).length) : (permI n j i).length = j * (permL n).length + i := by
  unfold permI
  rw [List.length_append, permK_length, List.length_map, List.length_take]
  omega
theorem behind_step {f : Int} {r : List Int} {k : Nat} {z : Int} (h : r[k]? = some z) : f :: (r.take (k + 1)).map (up f) = (f :: (r.take k).map (up f)) ++ [up f z] := by
  rw [take_snoc_i h, List.map_append]; rfl
theorem up_yes {f v : Int} (h : f ≤ v) : up f v = v + 1 := by unfold up; rw [if_pos h]
theorem up_no {f v : Int} (h : v < f) : up f v = v := by unfold up; rw [if_neg (by omega)]
theorem behind_length (f : Int) (r : List Int) : (behind f r).length = r.length + 1 := by simp [behind]
theorem two_ways : ∀ n : Nat, n ≤ 6 → fillL n n [] = permL n := by decide +kernel
/-- How many numbers in all. -/
def tot (zss : List (List Int)) : Nat := (zss.map List.length).sum
theorem permL_small : ∀ n : Nat, n ≤ 6 → (permL n).length ≤ 720 ∧ tot (permL n) ≤ 4320 := by decide +kernel
theorem permL_rows : ∀ n : Nat, n ≤ 6 → ∀ r ∈ permL n, r.length = n ∧ ∀ x ∈ r, 1 ≤ x ∧ x ≤ 6 := by decide +kernel
def permsR (m : Int) : List (List Int) := if 0 ≤ m ∧ m ≤ 6 then permL m.toNat else []
theorem permsR_yes {n : Nat} (h : n ≤ 6) : permsR (n : Int) = permL n := by unfold permsR; rw [if_pos (by omega), Int.toNat_natCast]
theorem permsR_no {m : Int} (h : ¬ (0 ≤ m ∧ m ≤ 6)) : permsR m = [] := by unfold permsR; rw [if_neg h]
theorem permsR_small (m : Int) : (permsR m).length ≤ 720 ∧ tot (permsR m) ≤ 4320 := by
  by_cases h : 0 ≤ m ∧ m ≤ 6
  · obtain ⟨n, rfl⟩ : ∃ n : Nat, m = (n : Int) := ⟨m.toNat, by omega⟩
    rw [permsR_yes (by omega)]
    exact permL_small n (by omega)
  · rw [permsR_no h]; simp [tot]
theorem tot_snoc (a : List (List Int)) (b : List Int) : tot (a ++ [b]) = tot a + b.length := by simp [tot]
theorem tot_take (zss : List (List Int)) (i : Nat) : tot (zss.take i) ≤ tot zss := by
  have h : tot zss = tot (zss.take i) + tot (zss.drop i) := by
    unfold tot
    rw [← List.sum_append, ← List.map_append, List.take_append_drop]
  omega
theorem tot_step {zss : List (List Int)} {i : Nat} {z : List Int} (h : zss[i]? = some z) : tot (zss.take (i + 1)) = tot (zss.take i) + z.length := by
  rw [List.take_add_one, h]; exact tot_snoc _ _
end Go.Proofs.Ytknjgehcaadomaa
