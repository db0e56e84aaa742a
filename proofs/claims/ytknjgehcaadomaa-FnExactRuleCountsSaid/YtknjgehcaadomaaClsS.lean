
/-
  spec.SymmetryClass and spec.LeastSymmetry, by their contracts.
-/
import Derived.Test.YtknjgehcaadomaaPut
import Derived.Test.YtknjgehcaadomaaSymS
namespace Go.Proofs.Ytknjgehcaadomaa
set_option maxRecDepth 100000
open Go.RowKit

theorem PutS.start (w : World) : PutS (w.alloc (.cells #[] 24)) w.heap.size (.slice (some ⟨w.heap.size, 0, none⟩) 0 0) [] := ⟨IntsS.made0 w w.heap.size (Nat.le_refl _), w.heap.size, 0, rfl⟩
theorem PutS.below {w w' : World} {B : Nat} {v : Value} {zss : List (List Int)} (h : PutS w B v zss) (hb : Below w.heap.size w w') : PutS w' B v zss := ⟨h.1.below hb, h.2⟩
theorem PutS.keepDrew {w w' : World} {B : Nat} {v : Value} {zss : List (List Int)} (h : PutS w B v zss) (hd : Drew w w') : PutS w' B v zss := h.below (hd.below _)
theorem ordL_all {l : List (List Int)} (h : allP l = true) (k : Nat) : ∀ z ∈ ordL l k, isP z = true := fun _ hz => allP_at h (List.mem_of_mem_take (ordL_mem.1 hz))
theorem tot_le8 : ∀ l : List (List Int), (∀ z ∈ l, z.length ≤ 8) → tot l ≤ 8 * l.length
  | [], _ => by simp [tot]
  | z :: l, h => by
    have h1 := h z (by simp)
    have h2 := tot_le8 l fun y hy => h y (by simp [hy])
    simp only [tot, List.length_cons, List.map_cons, List.sum_cons] at h2 ⊢
    omega
theorem clsR_small (p : List Int) : (clsR p).length ≤ 8 ∧ tot (clsR p) ≤ 64 := by
  have h1 := clsR_len p
  have h2 := tot_le8 (clsR p) fun z hz => isP_le (clsR_mem hz)
  omega
end Go.Proofs.Ytknjgehcaadomaa
