
/-
  WORDS FOR A LIST OF ROWS THAT IS FILLED PLACE BY PLACE. Nothing here speaks of a function of the program.
-/
import Derived.Test.YtknjgehcaadomaaIntsS
import Derived.Test.YtknjgehcaadomaaApp
namespace Go.Proofs.Ytknjgehcaadomaa
set_option maxRecDepth 100000
open Go.RowKit

/-! a list of rows that is filled place by place -/
def fillS (zss : List (List Int)) (k : Nat) : List (List Int) := zss.take k ++ List.replicate (zss.length - k) []
theorem fillS_zero (zss : List (List Int)) : fillS zss 0 = List.replicate zss.length [] := by simp [fillS]
theorem fillS_length (zss : List (List Int)) (k : Nat) (h : k ≤ zss.length) : (fillS zss k).length = zss.length := by simp [fillS]; omega
theorem fillS_all (zss : List (List Int)) : fillS zss zss.length = zss := by simp [fillS]
theorem fillS_set {zss : List (List Int)} {k : Nat} {z : List Int} (h : zss[k]? = some z) : (fillS zss k).set k z = fillS zss (k + 1) := by
  have hk : k < zss.length := (List.getElem?_eq_some_iff.1 h).1
  unfold fillS
  rw [List.set_append_right _ _ (by rw [List.length_take]; omega), List.length_take, Nat.min_eq_left (by omega), Nat.sub_self, show zss.length - k = (zss.length - (k + 1)) + 1 by omega, List.replicate_succ, List.set_cons_zero, List.take_add_one, h]
  simp
theorem Inner.zero (w : World) (B n : Nat) : Inner w B (List.replicate n (.slice none 0 0)) (List.replicate n []) := by
  refine ⟨by simp, fun i u zs hu hz => ?_, ?_⟩
  · obtain ⟨_, rfl⟩ := List.mem_replicate.1 (List.mem_of_getElem? hu)
    obtain ⟨_, rfl⟩ := List.mem_replicate.1 (List.mem_of_getElem? hz)
    exact Ints.nil w B
  · refine List.pairwise_of_forall_mem_list fun a ha b _ => ?_
    obtain ⟨_, rfl⟩ := List.mem_replicate.1 ha
    exact .inl rfl
theorem Inner.set {w : World} {B : Nat} {vs : List Value} {zss : List (List Int)} {u : Value} {z : List Int} (h : Inner w B vs zss) (k : Nat) (hu : Ints w B u z) (ha : ∀ x ∈ vs, Away x u) : Inner w B (vs.set k u) (zss.set k z) := by
  have hl := h.len
  refine ⟨by simp [hl], fun i x ys hx hy => ?_, ?_⟩
  · rw [List.getElem?_set] at hx hy
    by_cases e : k = i
    · subst e
      rw [if_pos rfl] at hx hy
      by_cases hk : k < vs.length
      · rw [if_pos hk] at hx
        rw [if_pos (by omega)] at hy
        cases hx; cases hy
        exact hu
      · rw [if_neg hk] at hx
        cases hx
    · rw [if_neg e] at hx hy
      exact h.row i x ys hx hy
  · rw [List.pairwise_iff_getElem]
    intro i j hi hj hij
    rw [List.length_set] at hi hj
    rw [List.getElem_set, List.getElem_set]
    by_cases e1 : k = i
    · rw [if_pos e1, if_neg (by omega)]
      exact (ha _ (List.getElem_mem hj)).symm
    · rw [if_neg e1]
      by_cases e2 : k = j
      · rw [if_pos e2]
        exact ha _ (List.getElem_mem hi)
      · rw [if_neg e2]
        exact List.pairwise_iff_getElem.1 h.away i j hi hj hij
/-- A row of rows that is filled up to k. -/
structure Filled (w wr : World) (g n : Nat) (zss : List (List Int)) (k : Nat) : Prop where
  below : Below w.heap.size w wr
  rows : ∃ vs, wr.ownsRow w.heap.size 24 1 (.slice (some ⟨g, 0, none⟩) n n) n vs ∧ Inner wr w.heap.size vs (fillS zss k)
theorem made_rows (n : Nat) : (madeCells (Value.slice none 0 0).cells (n * 1)).toList = List.replicate n (.slice none 0 0) := by
  rw [Nat.mul_one]
  exact toList_madeCells_one _ _
/-- One more row, made behind all that stands. -/
theorem Filled.put {w wr w' : World} {g n k : Nat} {zss : List (List Int)} {z : List Int} {u : Value} (h : Filled w wr g n zss k) (hz : zss[k]? = some z) (hb : Below wr.heap.size wr w') (hu : Ints w' wr.heap.size u z) :
    Filled w (w'.setCell ⟨g, k, none⟩ u) g n zss (k + 1) := by
  obtain ⟨h1, vs, h2, h3⟩ := h
  have o := own_below h2 hb
  have i := h3.keepI (KeepI.of_below hb)
  have ha := h3.away_new hu.since (Nat.le_refl _)
  have st := o.stored k u
  have hk := KeepI.of_grown o st.2
  have hg := (h2.lt g rfl).1
  refine ⟨(below_after h1 hb).setCell hg _, _, st.1, ?_⟩
  rw [← fillS_set hz]
  exact (i.keepI hk).set k ((hu.low h1.size).keepI hk) ha
theorem Filled.old {w wr w' : World} {g n k : Nat} {zss : List (List Int)} (h : Filled w wr g n zss k) (hb : Below wr.heap.size wr w') (hk : k < n) : (∃ old, w'.cell? ⟨g, k, none⟩ = some old) ∧ w'.frozen? ⟨g, k, none⟩ = false := by
  obtain ⟨_, vs, h2, _⟩ := h
  have o := own_below h2 hb
  have hl : vs.length = n := by simpa using o.1
  exact ⟨⟨_, by rw [o.cellAt k (by omega)]; exact List.getElem?_eq_getElem (by omega)⟩, o.frozenAt k⟩
theorem Filled.start {w w0 w1 : World} {g n : Nat} {zss : List (List Int)} (hl : zss.length = n) (hb : Below w.heap.size w w0) (hown : w1.ownsRow w.heap.size 24 1 (.slice (some ⟨g, 0, none⟩) n n) n (madeCells (Value.slice none 0 0).cells (n * 1)).toList) (hg : w0.grownBy w1 none) : Filled w w1 g n zss 0 := by
  refine ⟨hb.grown hg hb.size (by simp), _, hown, ?_⟩
  rw [made_rows, fillS_zero, hl]
  exact Inner.zero _ _ _

end Go.Proofs.Ytknjgehcaadomaa
