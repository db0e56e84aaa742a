
/-
  PLAIN: rules (chapter 15): the labels that follow a label, the lists that arise step by step, how long they are. Nothing here speaks of the program.
-/
import Derived.Test.YtknjgehcaadomaaPermM
namespace Go.Proofs.Ytknjgehcaadomaa
set_option maxRecDepth 100000

/-- The labels that follow the label x: of the first row that begins with it. -/
def folR (L : List (List Int)) (x : Int) : List Int :=
  match L.find? fun r => decide (r.head? = some x) with
  | some r => r.drop 1
  | none => []
theorem folR_none {L : List (List Int)} {x : Int} (h : ∀ y ∈ L, y.head? ≠ some x) : folR L x = [] := by
  unfold folR
  rw [List.find?_eq_none.2 (fun y hy => by simpa using h y hy)]
theorem folR_hit {L : List (List Int)} {x : Int} {i : Nat} {r : List Int} (hi : L[i]? = some r) (hr : r.head? = some x) (hno : ∀ y ∈ L.take i, y.head? ≠ some x) : folR L x = r.drop 1 := by
  have hlt : i < L.length := (List.getElem?_eq_some_iff.1 hi).1
  have e : L = L.take i ++ r :: L.drop (i + 1) := by
    conv => lhs; rw [← List.take_append_drop i L]
    congr 1
    rw [List.drop_eq_getElem_cons hlt, (List.getElem?_eq_some_iff.1 hi).2]
  unfold folR
  have h1 : (L.find? fun r => decide (r.head? = some x)) = some r := by
    conv => lhs; rw [e]
    rw [List.find?_append, List.find?_eq_none.2 (fun y hy => by simpa using hno y hy)]
    simp [hr]
  rw [h1]
theorem folR_mem {L : List (List Int)} {x : Int} : folR L x = [] ∨ ∃ r ∈ L, folR L x = r.drop 1 := by
  unfold folR
  split
  · rename_i r h
    exact .inr ⟨r, List.mem_of_find?_eq_some h, rfl⟩
  · exact .inl rfl
def ruleOK (L : List (List Int)) : Bool := L.all fun r => decide (r.length ≠ 0 ∧ r.length ≤ 20 ∧ L.length ≤ 20)
theorem ruleOK_mem {L : List (List Int)} (h : ruleOK L = true) {r : List Int} (hr : r ∈ L) : r.length ≠ 0 ∧ r.length ≤ 20 ∧ L.length ≤ 20 := of_decide_eq_true (List.all_eq_true.1 h r hr)
theorem ruleOK_no {L : List (List Int)} {r : List Int} (hr : r ∈ L) (h : ¬ (r.length ≠ 0 ∧ r.length ≤ 20 ∧ L.length ≤ 20)) : ruleOK L = false := by
  cases hb : ruleOK L with
  | false => rfl
  | true => exact absurd (ruleOK_mem hb hr) h
theorem ruleOK_len {L : List (List Int)} (h : ruleOK L = true) : L.length ≤ 20 := by
  cases L with
  | nil => simp
  | cons r t => exact (ruleOK_mem h (List.mem_cons_self ..)).2.2
theorem ruleOK_take {L : List (List Int)} (h : ∀ r ∈ L.take L.length, r.length ≠ 0 ∧ r.length ≤ 20 ∧ L.length ≤ 20) : ruleOK L = true := by
  rw [List.take_length] at h
  exact List.all_eq_true.2 fun r hr => decide_eq_true (h r hr)
theorem folR_le {L : List (List Int)} (h : ruleOK L = true) (x : Int) : (folR L x).length ≤ 19 := by
  rcases folR_mem (L := L) (x := x) with e | ⟨r, hr, e⟩
  · rw [e]; simp
  · have := ruleOK_mem h hr
    rw [e, List.length_drop]; omega
/-- One step. -/
def stepL (L : List (List Int)) (l : List Int) : List Int := (l.map (folR L)).flatten
theorem stepL_nil (L : List (List Int)) : stepL L [] = [] := rfl
theorem stepL_take {L : List (List Int)} {l : List Int} {k : Nat} {x : Int} (h : l[k]? = some x) : stepL L (l.take (k + 1)) = stepL L (l.take k) ++ folR L x := by
  unfold stepL
  rw [List.take_add_one, h, List.map_append, List.flatten_append]
  simp
theorem stepL_le {L : List (List Int)} (h : ruleOK L = true) : ∀ l : List Int, (stepL L l).length ≤ 19 * l.length
  | [] => by simp [stepL]
  | x :: l => by
    have h1 := stepL_le h l
    have h2 := folR_le h x
    unfold stepL at h1 ⊢
    rw [List.map_cons, List.flatten_cons, List.length_append, List.length_cons]
    omega
theorem stepL_mem {L : List (List Int)} {l : List Int} {z : Int} (h : z ∈ stepL L l) : ∃ r ∈ L, z ∈ r := by
  unfold stepL at h
  rw [List.mem_flatten] at h
  obtain ⟨q, hq, hz⟩ := h
  obtain ⟨x, _, rfl⟩ := List.mem_map.1 hq
  rcases folR_mem (L := L) (x := x) with e | ⟨r, hr, e⟩
  · rw [e] at hz; cases hz
  · rw [e] at hz; exact ⟨r, hr, List.mem_of_mem_drop hz⟩
/-- The list behind k steps. -/
def levL (L : List (List Int)) (x : Int) : Nat → List Int
  | 0 => [x]
  | k + 1 => stepL L (levL L x k)
def rcK (L : List (List Int)) (x : Int) (k : Nat) : List Int := (List.range k).map fun j => ((levL L x j).length : Int)
theorem rcK_step (L : List (List Int)) (x : Int) (k : Nat) : rcK L x (k + 1) = rcK L x k ++ [((levL L x k).length : Int)] := by unfold rcK; rw [List.range_succ, List.map_append]; rfl
theorem rcK_length (L : List (List Int)) (x : Int) (k : Nat) : (rcK L x k).length = k := by simp [rcK]
def rcOK (L : List (List Int)) (x : Int) (m : Int) : Bool := ruleOK L && decide (0 ≤ m ∧ m ≤ 8) && (List.range (m.toNat + 1)).all fun j => decide ((levL L x j).length ≤ 5000)
def rcR (L : List (List Int)) (x m : Int) : List Int := if rcOK L x m then rcK L x (m.toNat + 1) else []
theorem rcR_no {L : List (List Int)} {x m : Int} (h : rcOK L x m = false) : rcR L x m = [] := by unfold rcR; rw [if_neg (by simp [h])]
theorem rcR_rule {L : List (List Int)} {x m : Int} (h : ruleOK L = false) : rcR L x m = [] := rcR_no (by unfold rcOK; rw [h]; rfl)
theorem rcR_out {L : List (List Int)} {x m : Int} (h : ¬ (0 ≤ m ∧ m ≤ 8)) : rcR L x m = [] := rcR_no (by unfold rcOK; rw [decide_eq_false h]; simp)
theorem rcR_long {L : List (List Int)} {x : Int} {n k : Nat} (hk : k ≤ n) (h : ¬ (levL L x k).length ≤ 5000) : rcR L x (n : Int) = [] := by
  refine rcR_no ?_
  cases hb : rcOK L x (n : Int) with
  | false => rfl
  | true =>
    unfold rcOK at hb
    rw [Bool.and_eq_true] at hb
    have := of_decide_eq_true (List.all_eq_true.1 hb.2 k (by rw [List.mem_range, Int.toNat_natCast]; omega))
    exact absurd this h
theorem rcR_yes {L : List (List Int)} {x : Int} {n : Nat} (hL : ruleOK L = true) (hn : n ≤ 8) (h : ∀ k, k ≤ n → (levL L x k).length ≤ 5000) : rcR L x (n : Int) = rcK L x (n + 1) := by
  have : rcOK L x (n : Int) = true := by
    unfold rcOK
    rw [hL, decide_eq_true (by omega), Bool.true_and, Bool.true_and, List.all_eq_true]
    intro k hk
    rw [List.mem_range, Int.toNat_natCast] at hk
    exact decide_eq_true (h k (by omega))
  unfold rcR
  rw [if_pos this, Int.toNat_natCast]
theorem rcR_le (L : List (List Int)) (x m : Int) : (rcR L x m).length ≤ 9 := by
  unfold rcR
  split
  · rename_i h
    unfold rcOK at h
    simp only [Bool.and_eq_true, decide_eq_true_eq] at h
    rw [rcK_length]; omega
  · simp
end Go.Proofs.Ytknjgehcaadomaa
