
/-
  spec.l3All and spec.OrderPerms, by their contracts.
-/
import Derived.Test.YtknjgehcaadomaaClsS
import Derived.Test.YtknjgehcaadomaaAllS
namespace Go.Proofs.Ytknjgehcaadomaa
set_option maxRecDepth 100000
open Go.RowKit

theorem tot_app (a b : List (List Int)) : tot (a ++ b) = tot a + tot b := by simp [tot]
theorem tot_put (l : List (List Int)) (p : List Int) : tot (putL l p) ≤ tot l + p.length := by
  unfold putL
  split
  · omega
  · have h := congrArg tot (List.take_append_drop (scanL l p l.length) l)
    rw [tot_app] at h
    rw [tot_app, tot_app]
    have : tot [p] = p.length := by simp [tot]
    omega
theorem tot_foldl : ∀ (l a : List (List Int)), tot (l.foldl putL a) ≤ tot a + tot l
  | [], a => by simp [tot]
  | p :: l, a => by
    have h1 := tot_foldl l (putL a p)
    have h2 := tot_put a p
    have h3 := tot_app [p] l
    have h4 : tot [p] = p.length := by simp [tot]
    rw [List.foldl_cons]
    rw [List.singleton_append] at h3
    omega
theorem ordR_tot (l : List (List Int)) : tot (ordR l) ≤ tot l := by
  cases h : allP l with
  | true =>
    rw [ordR_yes h]
    unfold ordL
    have h1 := tot_foldl (l.take l.length) []
    rw [List.take_length] at h1 ⊢
    simpa [tot] using h1
  | false => rw [ordR_no h]; simp [tot]
end Go.Proofs.Ytknjgehcaadomaa
