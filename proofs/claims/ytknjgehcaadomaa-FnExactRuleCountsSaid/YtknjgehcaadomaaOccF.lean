
/-
  spec.l7Find, spec.OccurrencesOf, spec.CountPattern, spec.HasPattern, by their contracts.
-/
import Derived.Test.YtknjgehcaadomaaOccS
namespace Go.Proofs.Ytknjgehcaadomaa
set_option maxRecDepth 100000
open Go.RowKit

theorem extK_len {p q : List Int} {m : Nat} {head : List Int} (ih : ∀ x, (extL p q m (head ++ [x])).length ≤ 2 ^ (p.length - x.toNat)) : ∀ j, j ≤ p.length - lastP head → (extK p q m head j).length + 2 ^ (p.length - lastP head - j) ≤ 2 ^ (p.length - lastP head)
  | 0, _ => by rw [extK_zero]; simp
  | j + 1, hj => by
    have h1 := extK_len ih j (by omega)
    have e : p.length - lastP head - j = (p.length - lastP head - (j + 1)) + 1 := by omega
    rw [e, Nat.pow_succ] at h1
    cases hf : fitL p q (head ++ [((lastP head + j + 1 : Nat) : Int)]) with
    | false => rw [extK_no hf]; omega
    | true =>
      have h2 := ih ((lastP head + j + 1 : Nat) : Int)
      rw [show p.length - ((lastP head + j + 1 : Nat) : Int).toNat = p.length - lastP head - (j + 1) by omega] at h2
      rw [extK_yes hf, List.length_append]
      omega
theorem extL_size {p q : List Int} : ∀ (m : Nat) (head : List Int), (extL p q m head).length ≤ 2 ^ (p.length - lastP head)
  | 0, head => by rw [extL, List.length_singleton]; exact Nat.one_le_two_pow
  | m + 1, head => by
    have h := extK_len (p := p) (q := q) (m := m) (head := head) (fun x => by
      have := extL_size (p := p) (q := q) m (head ++ [x])
      rwa [lastP_snoc] at this) (p.length - lastP head) (Nat.le_refl _)
    rw [extK_all] at h
    exact Nat.le_trans (Nat.le_add_right _ _) h
theorem extK_mono {p q : List Int} {m : Nat} {head : List Int} (j : Nat) : (extK p q m head j).length ≤ (extK p q m head (j + 1)).length := by
  cases hf : fitL p q (head ++ [((lastP head + j + 1 : Nat) : Int)]) with
  | false => rw [extK_no hf]; exact Nat.le_refl _
  | true => rw [extK_yes hf, List.length_append]; omega
theorem extK_le {p q : List Int} {m : Nat} {head : List Int} {j : Nat} (k : Nat) : (extK p q m head j).length ≤ (extK p q m head (j + k)).length := by
  induction k with
  | zero => exact Nat.le_refl _
  | succ k ih => exact Nat.le_trans ih (extK_mono _)
theorem occ_size (p q : List Int) (hp : isP p = true) : (occR p q).length ≤ 256 := by
  have h8 := isP_le hp
  unfold occR
  split
  · have := extL_size (p := p) (q := q) q.length []
    rw [lastP_nil] at this
    exact Nat.le_trans this (Nat.pow_le_pow_right (n := 2) (by decide) (show p.length - 0 ≤ 8 by omega))
  · simp

/-- What l7Find leaves: the list with more rows, of which none but head's own is older than the call. -/
def FindEnds (w : World) (B : Nat) (vs : List Value) (zss : List (List Int)) (hv : Value) (L : List (List Int)) (e : Ending) (w' : World) : Prop :=
  ∃ v' us, e = .returned v' ∧ w'.ownsRow B 24 1 v' (zss.length + L.length) (vs ++ us) ∧ Inner w' B (vs ++ us) (zss ++ L) ∧ (∀ x ∈ us, x = hv ∨ Since w.heap.size x) ∧ Below B w w' ∧ KeepI w w'

end Go.Proofs.Ytknjgehcaadomaa
