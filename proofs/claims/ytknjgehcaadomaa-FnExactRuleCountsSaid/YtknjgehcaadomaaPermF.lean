
/-
  PLAIN: the lists that the functions of chapter 2 give. Nothing here speaks of the program.
-/
import Derived.Test.YtknjgehcaadomaaPermM
namespace Go.Proofs.Ytknjgehcaadomaa
set_option maxRecDepth 100000

/-- Below b, or not: the value at a place, 0 where there is none. -/
def at0 (l : List Int) (k : Nat) : Int := l.getD k 0
theorem at0_of {l : List Int} {k : Nat} {z : Int} (h : l[k]? = some z) : at0 l k = z := by unfold at0; rw [List.getD_eq_getElem?_getD, h]; rfl
theorem at0_some {l : List Int} {k : Nat} (h : k < l.length) : l[k]? = some (at0 l k) := by
  unfold at0
  rw [List.getD_eq_getElem?_getD, List.getElem?_eq_getElem h]; rfl

/-- The inverse, filled in k rounds. -/
def invFill (l : List Int) : Nat → List Int
  | 0 => List.replicate l.length 0
  | k + 1 => (invFill l k).set ((at0 l k).toNat - 1) ((k : Int) + 1)
theorem invFill_length (l : List Int) : ∀ k, (invFill l k).length = l.length
  | 0 => by simp [invFill]
  | k + 1 => by rw [invFill, List.length_set, invFill_length l k]
theorem invFill_step {l : List Int} {k : Nat} {z : Int} (h : l[k]? = some z) : (invFill l k).set (z.toNat - 1) ((k : Int) + 1) = invFill l (k + 1) := by rw [invFill, at0_of h]
def invR (l : List Int) : List Int := if isP l then invFill l l.length else []
theorem invR_yes {l : List Int} (h : isP l = true) : invR l = invFill l l.length := by unfold invR; rw [if_pos h]
theorem invR_no {l : List Int} (h : isP l = false) : invR l = [] := by unfold invR; rw [if_neg (by simp [h])]
theorem isP_le {l : List Int} (h : isP l = true) : l.length ≤ 8 := (isP_true.1 h).1
theorem isP_range {l : List Int} (h : isP l = true) {k : Nat} {z : Int} (hz : l[k]? = some z) : 1 ≤ z ∧ z ≤ (l.length : Int) := (isP_true.1 h).2.1 z (List.mem_of_getElem? hz)
theorem invR_le (l : List Int) : (invR l).length ≤ 8 := by
  cases h : isP l with
  | true => rw [invR_yes h, invFill_length]; exact isP_le h
  | false => rw [invR_no h]; simp

/-- The composition, its first k values. -/
def compL (p q : List Int) (k : Nat) : List Int := (List.range k).map fun j => at0 p ((at0 q j).toNat - 1)
theorem compL_length (p q : List Int) (k : Nat) : (compL p q k).length = k := by simp [compL]
theorem compL_zero (p q : List Int) : compL p q 0 = [] := rfl
theorem compL_step {p q : List Int} {k : Nat} {z y : Int} (hz : q[k]? = some z) (hy : p[z.toNat - 1]? = some y) : compL p q (k + 1) = compL p q k ++ [y] := by
  unfold compL
  rw [List.range_succ, List.map_append, List.map_singleton, at0_of hz, at0_of hy]
theorem compL_at {p q : List Int} {k n : Nat} {z y : Int} (h : k < n) (hz : q[k]? = some z) (hy : p[z.toNat - 1]? = some y) : (compL p q n)[k]? = some y := by
  unfold compL
  rw [List.getElem?_map, List.getElem?_range h, Option.map_some, at0_of hz, at0_of hy]
def compOK (p q : List Int) : Bool := isP p && isP q && decide (p.length = q.length)
def compR (p q : List Int) : List Int := if compOK p q then compL p q q.length else []
theorem compR_yes {p q : List Int} (h : compOK p q = true) : compR p q = compL p q q.length := by unfold compR; rw [if_pos h]
theorem compR_no {p q : List Int} (h : compOK p q = false) : compR p q = [] := by unfold compR; rw [if_neg (by simp [h])]
theorem compOK_yes {p q : List Int} (h1 : isP p = true) (h2 : isP q = true) (h3 : p.length = q.length) : compOK p q = true := by simp [compOK, h1, h2, h3]
theorem compOK_no1 {p q : List Int} (h : isP p = false) : compOK p q = false := by simp [compOK, h]
theorem compOK_no2 {p q : List Int} (h : isP q = false) : compOK p q = false := by simp [compOK, h]
theorem compOK_no3 {p q : List Int} (h : p.length ≠ q.length) : compOK p q = false := by simp [compOK, h]
theorem compR_le (p q : List Int) : (compR p q).length ≤ 8 := by
  cases h : compOK p q with
  | true =>
    rw [compR_yes h, compL_length]
    simp only [compOK, Bool.and_eq_true, decide_eq_true_eq] at h
    exact isP_le h.1.2
  | false => rw [compR_no h]; simp

/-- The identity. -/
def idR (n : Int) : List Int := if 1 ≤ n ∧ n ≤ 8 then upTo n.toNat else []
theorem idR_yes {n : Int} (h1 : 1 ≤ n) (h2 : n ≤ 8) : idR n = upTo n.toNat := by unfold idR; rw [if_pos ⟨h1, h2⟩]
theorem idR_no {n : Int} (h : ¬ (1 ≤ n ∧ n ≤ 8)) : idR n = [] := by unfold idR; rw [if_neg h]
theorem idR_le (n : Int) : (idR n).length ≤ 8 := by
  unfold idR
  by_cases h : 1 ≤ n ∧ n ≤ 8
  · rw [if_pos h, upTo_length]; omega
  · rw [if_neg h]; simp
theorem upTo_step (k : Nat) : upTo (k + 1) = upTo k ++ [(k : Int) + 1] := by unfold upTo; rw [List.range_succ, List.map_append, List.map_singleton]
theorem upTo_asc {n : Nat} (h : n ≤ 8) : (ascL n).take n = upTo n := by
  refine List.ext_getElem (by rw [List.length_take, ascL_length, upTo_length]; omega) fun i h1 h2 => ?_
  rw [upTo_length] at h2
  simp only [ascL, upTo, List.getElem_take, List.getElem_map, List.getElem_range, h2, if_true]
end Go.Proofs.Ytknjgehcaadomaa
