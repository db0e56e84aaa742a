
/-
  PLAIN: patterns of patterns; the levels of a class, one number added at the end. Nothing here speaks of the program.
-/
import Derived.Test.YtknjgehcaadomaaClassM
import Derived.Test.YtknjgehcaadomaaOccN
import Derived.Test.YtknjgehcaadomaaChM
namespace Go.Proofs.Ytknjgehcaadomaa
set_option maxRecDepth 100000

theorem hasO_occ {p q : List Int} (hp : isP p = true) (hq : isP q = true) : hasO p q = decide (0 < (occR p q).length) := by unfold hasO; rw [occR_yes hp hq]
theorem hasO_iff {p q : List Int} (hp : isP p = true) (hq : isP q = true) : hasO p q = true ↔ ∃ s, s.Sublist p ∧ patL s = q := by
  rw [hasO_occ hp hq, decide_eq_true_eq]
  constructor
  · intro h
    obtain ⟨pl, hpl⟩ := List.exists_mem_of_length_pos h
    have h1 := isOcc_iff.1 (mem_occ.1 hpl)
    exact ⟨nums p pl, nums_sub' h1.2.2.2.1, h1.2.2.2.2⟩
  · rintro ⟨s, hs, rfl⟩
    exact occ_sub hp hs hq
theorem patL_map_sub {s t : List Int} (h : t.Sublist (patL s)) : ∃ t', t'.Sublist s ∧ patL t' = patL t := by
  unfold patL at h
  obtain ⟨t', ht, rfl⟩ := List.sublist_map_iff.1 h
  refine ⟨t', ht, ?_⟩
  refine patL_alike ⟨by simp, fun i j hi hj => ?_⟩
  have e : ∀ k, k < t'.length → at0 (t'.map fun v => 1 + (cnt s v : Int)) k = 1 + (cnt s (at0 t' k) : Int) := fun k hk => at0_of (by rw [List.getElem?_map, at0_some hk]; rfl)
  rw [e i hi, e j hj, cnt_iff (l := s) (ht.subset (at0_mem hi))]
  omega
/-- What occurs in the pattern of a part occurs in the whole. -/
theorem hasO_pat {p s q : List Int} (hp : isP p = true) (hq : isP q = true) (hs : s.Sublist p) (hz : isP (patL s) = true) (h : hasO (patL s) q = true) : hasO p q = true := by
  obtain ⟨t, ht, he⟩ := (hasO_iff hz hq).1 h
  obtain ⟨t', ht', he'⟩ := patL_map_sub ht
  exact (hasO_iff hp hq).2 ⟨t', ht'.trans hs, he'.trans he⟩
theorem hasO_self {p : List Int} (hp : isP p = true) : hasO p p = true := (hasO_iff hp hp).2 ⟨p, List.Sublist.refl _, patL_self hp⟩
theorem hasO_len {p q : List Int} (hp : isP p = true) (hq : isP q = true) (h : hasO p q = true) : q.length ≤ p.length ∧ (q.length = p.length → q = p) := by
  obtain ⟨s, hs, rfl⟩ := (hasO_iff hp hq).1 h
  rw [patL_length]
  refine ⟨hs.length_le, fun e => ?_⟩
  rw [hs.eq_of_length e, patL_self hp]
/-- One number more, at the end. -/
def nxP (z : List Int) (v : Int) : List Int := z.map (up v) ++ [v]
theorem nxP_length (z : List Int) (v : Int) : (nxP z v).length = z.length + 1 := by simp [nxP]
theorem up_lt (v x y : Int) : up v x < up v y ↔ x < y := by unfold up; split <;> split <;> omega
theorem up_ne (v x : Int) : up v x ≠ v := by unfold up; split <;> omega
theorem nx_isP {z : List Int} {v : Int} (hz : isP z = true) (h7 : z.length ≤ 7) (hv : 1 ≤ v ∧ v ≤ (z.length : Int) + 1) : isP (nxP z v) = true := by
  have h := isP_true.1 hz
  refine isP_true.2 ⟨by rw [nxP_length]; omega, fun x hx => ?_, ?_⟩
  · rw [nxP_length]
    unfold nxP at hx
    rcases List.mem_append.1 hx with hx | hx
    · obtain ⟨y, hy, rfl⟩ := List.mem_map.1 hx
      have := h.2.1 y hy
      unfold up
      split <;> omega
    · rw [List.mem_singleton] at hx
      omega
  · unfold nxP
    rw [List.nodup_append]
    refine ⟨?_, by simp, fun a ha b hb e => ?_⟩
    · rw [List.nodup_iff_pairwise_ne, List.pairwise_map]
      exact (List.nodup_iff_pairwise_ne.1 h.2.2).imp fun {a b} hne e => by
        have h1 := up_lt v a b
        have h2 := up_lt v b a
        omega
    · rw [List.mem_singleton] at hb
      subst hb; subst e
      obtain ⟨y, _, hy⟩ := List.mem_map.1 ha
      exact up_ne _ _ hy
theorem nx_pat {z : List Int} (hz : isP z = true) (v : Int) : patL (z.map (up v)) = z := by
  refine (pat_eq_iff hz).2 ⟨by simp, fun i j hi hj => ?_⟩
  rw [List.length_map] at hi hj
  have e : ∀ k, k < z.length → at0 (z.map (up v)) k = up v (at0 z k) := fun k hk => at0_of (by rw [List.getElem?_map, at0_some hk]; rfl)
  rw [e i hi, e j hj, up_lt]
theorem nx_avo {L : List (List Int)} {z : List Int} {v : Int} (hL : ∀ q ∈ L, isP q = true) (hz : isP z = true) (h7 : z.length ≤ 7) (hv : 1 ≤ v ∧ v ≤ (z.length : Int) + 1) (h : avo L z = false) : avo L (nxP z v) = false := by
  have h1 : ¬ ∀ q ∈ L, hasO z q = false := fun e => by rw [avo_yes.2 e] at h; cases h
  have h2 : ∃ q ∈ L, hasO z q = true := by
    apply Classical.byContradiction
    intro hno
    exact h1 fun q hq => by
      cases h3 : hasO z q with
      | false => rfl
      | true => exact (hno ⟨q, hq, h3⟩).elim
  obtain ⟨q, hq, h3⟩ := h2
  have hs : (z.map (up v)).Sublist (nxP z v) := List.sublist_append_left _ _
  refine avo_no hq (hasO_pat (nx_isP hz h7 hv) (hL q hq) hs ?_ ?_)
  · rw [nx_pat hz]; exact hz
  · rw [nx_pat hz]; exact h3
def nxAll (n : Nat) (z : List Int) : List (List Int) := (List.range n).map fun i : Nat => nxP z ((i : Int) + 1)
def lev (L : List (List Int)) : Nat → List (List Int)
  | 0 => [[]]
  | k + 1 => (lev L k).flatMap fun z => (nxAll (k + 1) z).filter (avo L)
theorem perm_nx : ∀ k : Nat, k ≤ 5 → ((permL k).flatMap (nxAll (k + 1))).Perm (permL (k + 1)) := by decide +kernel
theorem permL_mem : ∀ k : Nat, k ≤ 6 → ∀ z ∈ permL k, isP z = true ∧ z.length = k := by decide +kernel
theorem flat_filter {α β : Type} {p : α → Bool} {g : α → List β} : ∀ {l : List α}, (∀ x ∈ l, p x = false → g x = []) → (l.filter p).flatMap g = l.flatMap g
  | [], _ => rfl
  | a :: l, h => by
    have ih := flat_filter (p := p) (g := g) (l := l) fun x hx => h x (by simp [hx])
    rw [List.filter_cons, List.flatMap_cons]
    cases ha : p a with
    | true => rw [if_pos rfl, List.flatMap_cons, ih]
    | false => rw [if_neg (by simp), ih, h a (by simp) ha]; rfl
theorem lev_perm {L : List (List Int)} (hL : ∀ q ∈ L, isP q = true ∧ q.length ≠ 0) : ∀ k : Nat, k ≤ 6 → (lev L k).Perm (clsN L k)
  | 0, _ => by
    have h : avo L [] = true := avo_yes.2 fun q hq => by
      cases h1 : hasO [] q with
      | false => rfl
      | true =>
        have h2 := (hasO_len (by decide) (hL q hq).1 h1).1
        have h3 := (hL q hq).2
        rw [List.length_nil] at h2
        exact absurd (Nat.le_zero.1 h2) h3
    unfold clsN
    rw [show permL 0 = [[]] from rfl, List.filter_cons, if_pos h]
    exact List.Perm.refl _
  | k + 1, hk => by
    have ih := lev_perm hL k (by omega)
    have h1 : (lev L (k + 1)).Perm ((clsN L k).flatMap fun z => (nxAll (k + 1) z).filter (avo L)) := ih.flatMap_right _
    refine h1.trans ?_
    unfold clsN
    rw [flat_filter fun z hz ha => ?_, ← List.filter_flatMap]
    · exact (perm_nx k (by omega)).filter _
    · obtain ⟨h2, h3⟩ := permL_mem k (by omega) z hz
      rw [List.filter_eq_nil_iff]
      intro x hx
      obtain ⟨i, hi, rfl⟩ := List.mem_map.1 hx
      have := List.mem_range.1 hi
      rw [nx_avo (fun q hq => (hL q hq).1) h2 (by omega) (by omega) ha]
      simp
theorem lev_len {L : List (List Int)} (h : basis L = true) {k : Nat} (hk : k ≤ 6) : (lev L k).length = (clsN L k).length := (lev_perm (basis_isP h) k hk).length_eq
theorem lev_rows {L : List (List Int)} (h : basis L = true) {k : Nat} (hk : k ≤ 6) : ∀ z ∈ lev L k, isP z = true ∧ z.length = k := fun z hz => by
  have h1 := (lev_perm (basis_isP h) k hk).subset hz
  unfold clsN at h1
  exact permL_mem k hk z (List.mem_filter.1 h1).1
theorem lev_small {L : List (List Int)} (h : basis L = true) {k : Nat} (hk : k ≤ 6) : (lev L k).length ≤ 720 := by
  rw [lev_len h hk]
  exact Nat.le_trans (List.length_filter_le _ _) (permL_small k hk).1
end Go.Proofs.Ytknjgehcaadomaa
