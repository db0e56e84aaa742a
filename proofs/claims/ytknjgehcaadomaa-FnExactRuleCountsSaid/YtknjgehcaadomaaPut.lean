
/-
  spec.l3Put, by its contract.
-/
import Derived.Test.YtknjgehcaadomaaIntsS
import Derived.Test.YtknjgehcaadomaaApp
import Derived.Test.YtknjgehcaadomaaCmp
import Derived.Test.YtknjgehcaadomaaSame
import Derived.Deep.RegionHeld3
namespace Go.Proofs.Ytknjgehcaadomaa
set_option maxRecDepth 100000
open Go.RowKit

theorem Inner.put {w : World} {B s : Nat} {vs : List Value} {zss : List (List Int)} {u : Value} {z : List Int} (h : Inner w B vs zss) (hs : s ≤ zss.length) (hu : Ints w B u z) (ha : ∀ x ∈ vs, Away x u) : Inner w B (vs.take s ++ [u] ++ vs.drop s) (zss.take s ++ [z] ++ zss.drop s) := by
  have hl := h.len
  refine ⟨by simp; omega, fun i x ys hx hy => ?_, ?_⟩
  · by_cases h1 : i < s
    · rw [List.append_assoc, List.getElem?_append_left (by rw [List.length_take]; omega), List.getElem?_take_of_lt h1] at hx hy
      exact h.row i x ys hx hy
    · by_cases h2 : i = s
      · subst h2
        rw [List.append_assoc, List.getElem?_append_right (by rw [List.length_take]; omega), List.length_take, Nat.min_eq_left (by omega)] at hx hy
        simp at hx hy
        subst hx; subst hy
        exact hu
      · rw [List.getElem?_append_right (by simp; omega)] at hx hy
        simp only [List.length_append, List.length_take, List.length_singleton] at hx hy
        rw [List.getElem?_drop] at hx hy
        rw [Nat.min_eq_left (by omega)] at hx hy
        exact h.row _ x ys hx hy
  · have ht := h.away
    rw [← List.take_append_drop s vs, List.pairwise_append] at ht
    obtain ⟨h1, h2, h3⟩ := ht
    rw [List.append_assoc, List.pairwise_append]
    refine ⟨h1, ?_, fun a ha' b hb => ?_⟩
    · rw [List.singleton_append, List.pairwise_cons]
      exact ⟨fun b hb => (ha b (List.mem_of_mem_drop hb)).symm, h2⟩
    · rw [List.singleton_append, List.mem_cons] at hb
      rcases hb with rfl | hb
      · exact ha a (List.mem_of_mem_take ha')
      · exact h3 a ha' b hb
theorem own_news {w : World} {B n : Nat} {v : Value} {vs : List Value} {zss : List (List Int)} (_h : w.ownsRow B 24 1 v n vs) (hin : Inner w B vs zss) : ∀ u ∈ vs, u.oneCell' = true := fun u hu => by
  obtain ⟨zs, hz⟩ := hin.mem hu
  obtain ⟨A, c, rfl⟩ := hz.slice
  rfl

/-- A list of rows that lies at a block's head. -/
def PutS (w : World) (B : Nat) (v : Value) (zss : List (List Int)) : Prop := IntsS w B v zss ∧ ∃ g cap, v = .slice (some ⟨g, 0, none⟩) zss.length cap
def PutEnds (w : World) (B : Nat) (zss : List (List Int)) (e : Ending) (w' : World) : Prop := ∃ v', e = .returned v' ∧ PutS w' B v' zss ∧ Below B w w' ∧ KeepI w w'

theorem Arg.drew {w : World} {B n c : Nat} {A : Option Addr} {zs : List Int} (h : Arg w B A n c zs) : Arg w.drew B A n c zs := ⟨h.reads.drew, h.under, h.le, h.cap, h.small, h.nil⟩
theorem own_shape {w : World} {B n : Nat} {e : TypeId} {v : Value} {xs : List Value} (h : w.ownsRow B e 1 v n xs) (hv : v ≠ .slice none 0 0) : ∃ g cap, v = .slice (some ⟨g, 0, none⟩) n cap ∧ B ≤ g ∧ n ≤ cap := by
  rcases h.2 with ⟨h0, _⟩ | ⟨g, cap, cur, h1, h2, _, h3, _⟩
  · exact absurd h0 hv
  · exact ⟨g, cap, h1, h2, h3⟩

end Go.Proofs.Ytknjgehcaadomaa
