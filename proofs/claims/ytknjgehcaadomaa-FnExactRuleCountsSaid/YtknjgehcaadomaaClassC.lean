
/-
  spec.l12Class and spec.ClassCounts, by their contracts.
-/
import Derived.Test.YtknjgehcaadomaaClassN
namespace Go.Proofs.Ytknjgehcaadomaa
set_option maxRecDepth 100000
open Go.RowKit

theorem listsInfo : (Try.prog.info? 22).map (fun i => (i.zero, i.size, i.bytes)) = some (some (.slice none 0 0), 1, 24) := by kernel_rfl
/-- A change of one older block. -/
theorem IntsS.off {w w' : World} {B cb : Nat} {v : Value} {zss : List (List Int)} (h : IntsS w B v zss) (hg : w.grownBy w' (some cb)) (hc : cb < B) : IntsS w' B v zss := by
  obtain ⟨vs, h1, h2⟩ := h
  refine ⟨vs, h1.kept hg ?_, ⟨h2.len, fun i u z hu hz => ?_, h2.away⟩⟩
  · cases hv : v.ownBlock with
    | none => exact .inl rfl
    | some g => exact .inr fun e => by have := (h1.lt g hv).1; injection e with e; omega
  · have hr := h2.row i u z hu hz
    refine Row.kept hr hg ?_
    cases hv : u.ownBlock with
    | none => exact .inl rfl
    | some g => exact .inr fun e => by have := (Row.lt hr g hv).1; injection e with e; omega
/-- Rows of two types lie apart. -/
theorem own_types {w : World} {B B' n m : Nat} {e e' : TypeId} {u v : Value} {xs ys : List Value} (h : w.ownsRow B e 1 v n xs) (k : w.ownsRow B' e' 1 u m ys) (hne : e ≠ e') : v.ownBlock = none ∨ v.ownBlock ≠ u.ownBlock := by
  rcases h.2 with ⟨rfl, _⟩ | ⟨g, cap, cur, rfl, _, hg, _⟩
  · exact .inl rfl
  · refine .inr fun he => ?_
    rcases k.2 with ⟨rfl, _⟩ | ⟨g', cap', cur', rfl, _, hg', _⟩
    · simp [Value.ownBlock] at he
    · simp [Value.ownBlock] at he
      subst he
      rw [hg] at hg'
      injection hg' with hg'
      injection hg' with _ h2
      exact hne h2
theorem nxtK_lev (L : List (List Int)) (k : Nat) : nxtK L (lev L k) (k + 1) (lev L k).length = lev L (k + 1) := by unfold nxtK; rw [List.take_length]; rfl
/-- A list of lists of rows: how long each is. -/
def Heads (w : World) (B : Nat) (v : Value) (n : Nat) (f : Nat → Nat) : Prop := ∃ us : List Value, w.ownsRow B 22 1 v n us ∧ ∀ k, k < n → ∃ A c, us[k]? = some (.slice A (f k) c)
theorem Heads.below {w w' : World} {B n : Nat} {v : Value} {f : Nat → Nat} (h : Heads w B v n f) (hb : Below w.heap.size w w') : Heads w' B v n f := by
  obtain ⟨us, h1, h2⟩ := h
  exact ⟨us, own_below h1 hb, h2⟩
/-- The lengths of the levels. -/
def cntsN (L : List (List Int)) (k : Nat) : List Int := (List.range k).map fun j => ((clsN L j).length : Int)
theorem cntsN_step (L : List (List Int)) (k : Nat) : cntsN L (k + 1) = cntsN L k ++ [((clsN L k).length : Int)] := by unfold cntsN; rw [List.range_succ, List.map_append]; rfl
theorem cntsN_length (L : List (List Int)) (k : Nat) : (cntsN L k).length = k := by simp [cntsN]
def cntsR (L : List (List Int)) (m : Int) : List Int := if basis L = true ∧ 0 ≤ m ∧ m ≤ 6 then cntsN L (m.toNat + 1) else []
theorem cntsR_no {L : List (List Int)} {m : Int} (h : ¬ (basis L = true ∧ 0 ≤ m ∧ m ≤ 6)) : cntsR L m = [] := by unfold cntsR; rw [if_neg h]
theorem cntsR_yes {L : List (List Int)} {k : Nat} (h : basis L = true) (hk : k ≤ 6) : cntsR L (k : Int) = cntsN L (k + 1) := by unfold cntsR; rw [if_pos ⟨h, by omega, by omega⟩, Int.toNat_natCast]
theorem cntsR_le (L : List (List Int)) (m : Int) : (cntsR L m).length ≤ 7 := by
  by_cases h : basis L = true ∧ 0 ≤ m ∧ m ≤ 6
  · unfold cntsR; rw [if_pos h, cntsN_length]; omega
  · rw [cntsR_no h]; simp
end Go.Proofs.Ytknjgehcaadomaa
