
/-
  spec.l2Before, spec.l2Same; cmp.Compare, slices.Compare, cmp.Or, slices.Equal and impl.comparePerms, by their contracts.
-/
import Derived.Test.YtknjgehcaadomaaPermS
import Derived.Test.YtknjgehcaadomaaPermB
import Derived.Test.YtknjgehcaadomaaSymM
import Derived.Sort.Grow
import Derived.Outline
namespace Go.Proofs.Ytknjgehcaadomaa
set_option maxRecDepth 100000
open Go.RowKit

/-! plain -/
/-- slices.Compare's answer. -/
def lexV : List Int → List Int → Int
  | [], [] => 0
  | [], _ :: _ => -1
  | _ :: _, [] => 1
  | x :: xs, y :: ys => if x = y then lexV xs ys else if x < y then -1 else 1
theorem lexV_at : ∀ {p q : List Int} {k : Nat} {x y : Int}, p.take k = q.take k → p[k]? = some x → q[k]? = some y → x ≠ y → lexV p q = if x < y then -1 else 1
  | a :: p, b :: q, 0, x, y, _, hx, hy, hne => by
    simp at hx hy
    subst hx; subst hy
    rw [lexV, if_neg hne]
  | a :: p, b :: q, k + 1, x, y, h, hx, hy, hne => by
    simp at h
    obtain ⟨rfl, h⟩ := h
    rw [lexV, if_pos rfl]
    exact lexV_at h (by simpa using hx) (by simpa using hy) hne
  | [], _, k, _, _, _, hx, _, _ => by simp at hx
  | _ :: _, [], k, _, _, _, _, hy, _ => by simp at hy
theorem lexV_end : ∀ {p q : List Int} {k : Nat}, p.take k = q.take k → (k = p.length ∨ k = q.length) → k ≤ p.length → k ≤ q.length → lexV p q = if p.length < q.length then -1 else if q.length < p.length then 1 else 0
  | [], [], _, _, _, _, _ => by simp [lexV]
  | [], y :: q, _, _, _, _, _ => by simp [lexV]
  | x :: p, [], _, _, _, _, _ => by simp [lexV]
  | x :: p, y :: q, 0, _, h, _, _ => by simp at h
  | x :: p, y :: q, k + 1, h, hk, h1, h2 => by
    simp at h
    obtain ⟨rfl, h⟩ := h
    rw [lexV, if_pos rfl, lexV_end h (by simpa using hk) (by simpa using h1) (by simpa using h2)]
    simp
theorem lexV_lexL : ∀ {p q : List Int}, p.length = q.length → decide (lexV p q < 0) = lexL p q
  | [], [], _ => rfl
  | [], _ :: _, h => by simp at h
  | _ :: _, [], h => by simp at h
  | x :: p, y :: q, h => by
    rw [lexV, lexL]
    by_cases e : x = y
    · rw [if_pos e, if_pos e]
      exact lexV_lexL (by simpa using h)
    · rw [if_neg e, if_neg e]
      by_cases hl : x < y <;> simp [hl]
theorem lexV_small : ∀ (p q : List Int), -1 ≤ lexV p q ∧ lexV p q ≤ 1
  | [], [] => by simp [lexV]
  | [], _ :: _ => by simp [lexV]
  | _ :: _, [] => by simp [lexV]
  | x :: p, y :: q => by
    rw [lexV]
    split
    · exact lexV_small p q
    · split <;> omega
def cmpI (x y : Int) : Int := if x < y then -1 else if y < x then 1 else 0
/-- impl.comparePerms's answer. -/
def cmpV (p q : List Int) : Int := if cmpI p.length q.length = 0 then lexV p q else cmpI p.length q.length
theorem cmpV_befL (p q : List Int) : decide (cmpV p q < 0) = befL p q := by
  unfold cmpV cmpI befL
  by_cases h1 : (p.length : Int) < q.length
  · rw [if_pos h1, if_neg (by omega), if_neg (by omega)]
    simp; omega
  · rw [if_neg h1]
    by_cases h2 : (q.length : Int) < p.length
    · rw [if_pos h2, if_neg (by omega), if_neg (by omega)]
      simp; omega
    · rw [if_neg h2, if_pos rfl, if_pos (by omega)]
      exact lexV_lexL (by omega)
theorem cmpV_small (p q : List Int) : -1 ≤ cmpV p q ∧ cmpV p q ≤ 1 := by
  have h := lexV_small p q
  have h2 : -1 ≤ cmpI p.length q.length ∧ cmpI p.length q.length ≤ 1 := by
    unfold cmpI
    split
    · omega
    · split <;> omega
  unfold cmpV
  split
  · exact h
  · exact h2

theorem below_sgrow (w : World) (k : Nat) (os : Array Obj) : Below w.heap.size w (Sort.grow (w.drewN k) os) :=
  ⟨rfl, rfl, rfl, by unfold Sort.grow; simp [World.drewN], fun i hi => by unfold Sort.grow; exact Array.getElem?_append_left hi⟩

/-! contracts -/
end Go.Proofs.Ytknjgehcaadomaa
