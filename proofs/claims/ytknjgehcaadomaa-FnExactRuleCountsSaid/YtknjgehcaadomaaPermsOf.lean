
/-
  spec.PermsOf and impl.PermsOf, by their contracts.
-/
import Derived.Test.YtknjgehcaadomaaPermS
import Derived.Test.YtknjgehcaadomaaIntsS
namespace Go.Proofs.Ytknjgehcaadomaa
set_option maxRecDepth 100000
open Go.RowKit

theorem own_head {w : World} {base n : Nat} {v : Value} {xs : List Value} {e : TypeId} (h : w.ownsRow base e 1 v n xs) (hn : 0 < n) : ∃ g c, v = .slice (some ⟨g, 0, none⟩) n c := by
  rcases h.2 with ⟨_, h0⟩ | ⟨g, cap, cur, rfl, _⟩
  · omega
  · exact ⟨g, cap, rfl⟩

theorem IntsS.push {w : World} {B : Nat} {v : Value} {vs : List Value} {zss : List (List Int)} {u : Value} {zs : List Int} {n : Nat} (hn : n = zss.length) (hown : w.ownsRow B 24 1 v (n + 1) (vs ++ [u])) (hin : Inner w B (vs ++ [u]) (zss ++ [zs])) : IntsS w B v (zss ++ [zs]) := by
  subst hn
  refine ⟨vs ++ [u], ?_, hin⟩
  rw [List.length_append]
  exact hown

end Go.Proofs.Ytknjgehcaadomaa
