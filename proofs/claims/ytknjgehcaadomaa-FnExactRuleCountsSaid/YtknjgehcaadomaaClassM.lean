
/-
  PLAIN: classes by their bases. Nothing here speaks of the program.
-/
import Derived.Test.YtknjgehcaadomaaOccM
import Derived.Test.YtknjgehcaadomaaPermB
import Derived.Test.YtknjgehcaadomaaSymM
import Derived.Test.YtknjgehcaadomaaPermL
namespace Go.Proofs.Ytknjgehcaadomaa
set_option maxRecDepth 100000

/-- q occurs in p (both permutations). -/
def hasO (p q : List Int) : Bool := decide (0 < (extL p q q.length []).length)
/-- None of the list occurs in p. -/
def avo (list : List (List Int)) (p : List Int) : Bool := list.all fun q => !hasO p q
theorem avo_yes {list : List (List Int)} {p : List Int} : avo list p = true ↔ ∀ q ∈ list, hasO p q = false := by unfold avo; simp
theorem avo_no {list : List (List Int)} {p q : List Int} (hq : q ∈ list) (h : hasO p q = true) : avo list p = false := by
  cases h1 : avo list p with
  | false => rfl
  | true => rw [avo_yes.1 h1 q hq] at h; cases h
theorem avo_nil (p : List Int) : avo [] p = true := rfl
theorem avo_step {list : List (List Int)} {p q : List Int} {k : Nat} (h : list[k]? = some q) (hq : hasO p q = false) (hk : avo (list.take k) p = true) : avo (list.take (k + 1)) p = true := by
  rw [List.take_add_one, h]
  exact avo_yes.2 fun x hx => by
    rcases List.mem_append.1 hx with hx | hx
    · exact avo_yes.1 hk x hx
    · simp at hx; subst hx; exact hq
/-- What IsBasis asks of its k-th list. -/
def basAt (L : List (List Int)) (k : Nat) : Bool := isP (L.getD k []) && decide ((L.getD k []).length ≠ 0) && (decide (k = 0) || befL (L.getD (k - 1) []) (L.getD k [])) && avo (L.take k) (L.getD k [])
def basis (L : List (List Int)) : Bool := (List.range L.length).all (basAt L) && decide (L.length ≤ 8)
def BasTo (L : List (List Int)) (k : Nat) : Prop := ∀ i, i < k → basAt L i = true
theorem BasTo.zero (L : List (List Int)) : BasTo L 0 := fun i hi => absurd hi (by omega)
theorem BasTo.step {L : List (List Int)} {k : Nat} (h : BasTo L k) (hk : basAt L k = true) : BasTo L (k + 1) := fun i hi => by
  by_cases h1 : i < k
  · exact h i h1
  · rw [show i = k by omega]; exact hk
theorem BasTo.end_ {L : List (List Int)} (h : BasTo L L.length) : basis L = decide (L.length ≤ 8) := by
  unfold basis
  rw [show (List.range L.length).all (basAt L) = true by rw [List.all_eq_true]; exact fun i hi => h i (List.mem_range.1 hi)]
  rfl
theorem basis_no {L : List (List Int)} {k : Nat} (hk : k < L.length) (h : basAt L k = false) : basis L = false := by
  unfold basis
  rw [show (List.range L.length).all (basAt L) = false by rw [List.all_eq_false]; exact ⟨k, List.mem_range.2 hk, by simp [h]⟩]
  rfl
theorem getD_row {L : List (List Int)} {k : Nat} {z : List Int} (h : L[k]? = some z) : L.getD k [] = z := by rw [List.getD_eq_getElem?_getD, h]; rfl
theorem basAt_at {L : List (List Int)} {k : Nat} {z : List Int} (h : L[k]? = some z) : basAt L k = (isP z && decide (z.length ≠ 0) && (decide (k = 0) || befL (L.getD (k - 1) []) z) && avo (L.take k) z) := by unfold basAt; rw [getD_row h]
theorem basAt_isP {L : List (List Int)} {k : Nat} {z : List Int} (h : L[k]? = some z) (hb : basAt L k = true) : isP z = true ∧ z.length ≠ 0 := by
  rw [basAt_at h] at hb
  simp only [Bool.and_eq_true, decide_eq_true_eq] at hb
  exact ⟨hb.1.1.1, hb.1.1.2⟩
theorem BasTo.isP {L : List (List Int)} {k : Nat} (h : BasTo L k) {i : Nat} {z : List Int} (hi : i < k) (hz : L[i]? = some z) : isP z = true := (basAt_isP hz (h i hi)).1
theorem basis_le {L : List (List Int)} (h : basis L = true) : L.length ≤ 8 := by
  unfold basis at h
  simp only [Bool.and_eq_true, decide_eq_true_eq] at h
  exact h.2
theorem basis_isP {L : List (List Int)} (h : basis L = true) : ∀ z ∈ L, isP z = true ∧ z.length ≠ 0 := fun z hz => by
  unfold basis at h
  simp only [Bool.and_eq_true] at h
  obtain ⟨i, hi, rfl⟩ := List.getElem_of_mem hz
  exact basAt_isP (List.getElem?_eq_getElem hi) (List.all_eq_true.1 h.1 i (List.mem_range.2 hi))
/-- InClass, ClassOf. -/
def inC (L : List (List Int)) (p : List Int) : Bool := basis L && isP p && avo L p
def clsN (L : List (List Int)) (n : Nat) : List (List Int) := (permL n).filter (avo L)
def clsO (L : List (List Int)) (m : Int) : List (List Int) := if basis L = true ∧ 0 ≤ m ∧ m ≤ 6 then clsN L m.toNat else []
/-- The first k lists, those that fit. -/
def sift (g : List Int → Bool) (Z : List (List Int)) (k : Nat) : List (List Int) := (Z.take k).filter g
theorem sift_yes {g : List Int → Bool} {Z : List (List Int)} {k : Nat} {z : List Int} (h : Z[k]? = some z) (hg : g z = true) : sift g Z (k + 1) = sift g Z k ++ [z] := by
  unfold sift
  rw [List.take_add_one, h, List.filter_append]
  simp [hg]
theorem sift_no {g : List Int → Bool} {Z : List (List Int)} {k : Nat} {z : List Int} (h : Z[k]? = some z) (hg : g z = false) : sift g Z (k + 1) = sift g Z k := by
  unfold sift
  rw [List.take_add_one, h, List.filter_append]
  simp [hg]
theorem sift_le (g : List Int → Bool) (Z : List (List Int)) (k : Nat) : (sift g Z k).length ≤ k := by
  unfold sift
  exact Nat.le_trans (List.length_filter_le _ _) (by rw [List.length_take]; omega)
theorem sift_all (g : List Int → Bool) (Z : List (List Int)) : sift g Z Z.length = Z.filter g := by unfold sift; rw [List.take_length]
/-- MakeBasis: what none of those kept before occurs in. -/
def mkK (Z : List (List Int)) : Nat → List (List Int)
  | 0 => []
  | k + 1 => if avo (mkK Z k) (Z.getD k []) then mkK Z k ++ [Z.getD k []] else mkK Z k
theorem mkK_yes {Z : List (List Int)} {k : Nat} {z : List Int} (h : Z[k]? = some z) (ha : avo (mkK Z k) z = true) : mkK Z (k + 1) = mkK Z k ++ [z] := by rw [mkK, getD_row h, if_pos ha]
theorem mkK_no {Z : List (List Int)} {k : Nat} {z : List Int} (h : Z[k]? = some z) (ha : avo (mkK Z k) z = false) : mkK Z (k + 1) = mkK Z k := by rw [mkK, getD_row h, if_neg (by simp [ha])]
theorem mkK_le (Z : List (List Int)) : ∀ k, (mkK Z k).length ≤ k
  | 0 => Nat.le_refl _
  | k + 1 => by
    have := mkK_le Z k
    rw [mkK]
    split
    · rw [List.length_append, List.length_singleton]; omega
    · omega
theorem mkK_mem {Z : List (List Int)} : ∀ k, k ≤ Z.length → ∀ x ∈ mkK Z k, x ∈ Z
  | 0, _, x, hx => by cases hx
  | k + 1, hk, x, hx => by
    have h1 : Z[k]? = some (Z.getD k []) := by rw [List.getD_eq_getElem?_getD, List.getElem?_eq_getElem (by omega)]; rfl
    rw [mkK] at hx
    split at hx
    · rcases List.mem_append.1 hx with hx | hx
      · exact mkK_mem k (by omega) x hx
      · obtain rfl := List.mem_singleton.1 hx
        exact List.mem_of_getElem? h1
    · exact mkK_mem k (by omega) x hx
def mkO (L : List (List Int)) : List (List Int) := mkK (ordR L) (ordR L).length
def mkOK (L : List (List Int)) : Bool := allP L && basis (mkO L)
def mkR (L : List (List Int)) : List (List Int) := if mkOK L then mkO L else []
theorem mkR_yes {L : List (List Int)} (h : mkOK L = true) : mkR L = mkO L := by unfold mkR; rw [if_pos h]
theorem mkR_no {L : List (List Int)} (h : mkOK L = false) : mkR L = [] := by unfold mkR; rw [if_neg (by simp [h])]
end Go.Proofs.Ytknjgehcaadomaa
