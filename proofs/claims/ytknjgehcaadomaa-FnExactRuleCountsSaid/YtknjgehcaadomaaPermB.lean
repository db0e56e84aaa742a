
/-
  PLAIN: the order of lists. Nothing here speaks of the program.
-/
import Derived.Test.YtknjgehcaadomaaPermM
namespace Go.Proofs.Ytknjgehcaadomaa
set_option maxRecDepth 100000

/-- At the first place where they differ the first is less. -/
def lexL : List Int → List Int → Bool
  | x :: xs, y :: ys => if x = y then lexL xs ys else decide (x < y)
  | _, _ => false
theorem lexL_same : ∀ p : List Int, lexL p p = false
  | [] => rfl
  | x :: xs => by rw [lexL, if_pos rfl]; exact lexL_same xs
theorem lexL_at : ∀ {p q : List Int} {k : Nat} {x y : Int}, p.take k = q.take k → p[k]? = some x → q[k]? = some y → x ≠ y → lexL p q = decide (x < y)
  | a :: p, b :: q, 0, x, y, _, hx, hy, hne => by
    simp at hx hy
    subst hx; subst hy
    rw [lexL, if_neg hne]
  | a :: p, b :: q, k + 1, x, y, h, hx, hy, hne => by
    simp at h
    obtain ⟨rfl, h⟩ := h
    rw [lexL, if_pos rfl]
    exact lexL_at h (by simpa using hx) (by simpa using hy) hne
  | [], _, k, _, _, _, hx, _, _ => by simp at hx
  | _ :: _, [], k, _, _, _, _, hy, _ => by simp at hy
theorem take_same_step {p q : List Int} {k : Nat} {x : Int} (h : p.take k = q.take k) (hx : p[k]? = some x) (hy : q[k]? = some x) : p.take (k + 1) = q.take (k + 1) := by
  rw [List.take_add_one, List.take_add_one, h, hx, hy]
theorem lexL_end {p q : List Int} {n : Nat} (h : p.take n = q.take n) (hp : p.length = n) (hq : q.length = n) : lexL p q = false := by
  rw [List.take_of_length_le (by omega), List.take_of_length_le (by omega)] at h
  rw [h]; exact lexL_same q
def befL (p q : List Int) : Bool := if p.length = q.length then lexL p q else decide (p.length < q.length)
theorem befL_eq {p q : List Int} (h : p.length = q.length) : befL p q = lexL p q := by unfold befL; rw [if_pos h]
theorem befL_ne {p q : List Int} (h : p.length ≠ q.length) : befL p q = decide (p.length < q.length) := by unfold befL; rw [if_neg h]
def bef (p q : List Int) : Bool := isP p && isP q && befL p q
theorem bef_no1 {p q : List Int} (h : isP p = false) : bef p q = false := by simp [bef, h]
theorem bef_no2 {p q : List Int} (h : isP q = false) : bef p q = false := by simp [bef, h]
theorem bef_yes {p q : List Int} (h : isP p = true) (h' : isP q = true) : bef p q = befL p q := by simp [bef, h, h']
end Go.Proofs.Ytknjgehcaadomaa
