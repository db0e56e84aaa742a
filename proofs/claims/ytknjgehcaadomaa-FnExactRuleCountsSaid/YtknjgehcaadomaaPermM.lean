
/-
  PLAIN: permutations as lists of integers. Nothing here speaks of the program.
-/
import Derived.Below
namespace Go.Proofs.Ytknjgehcaadomaa
set_option maxRecDepth 100000

/-- Each of the numbers 1 to n once. -/
def IsP (l : List Int) : Prop := l.length ≤ 8 ∧ (∀ x ∈ l, 1 ≤ x ∧ x ≤ (l.length : Int)) ∧ l.Nodup
instance (l : List Int) : Decidable (IsP l) := inferInstanceAs (Decidable (_ ∧ _ ∧ _))
def isP (l : List Int) : Bool := decide (IsP l)
theorem isP_true {l : List Int} : isP l = true ↔ IsP l := by unfold isP; simp
theorem isP_false {l : List Int} : isP l = false ↔ ¬ IsP l := by unfold isP; simp

theorem sub_erase {a : Int} {l m : List Int} (hnd : (a :: l).Nodup) (h : ∀ x ∈ a :: l, x ∈ m) : ∀ x ∈ l, x ∈ m.erase a := fun x hx => by
  have hne : x ≠ a := fun e => by subst e; exact (List.nodup_cons.1 hnd).1 hx
  exact (List.mem_erase_of_ne hne).2 (h x (by simp [hx]))
theorem pigeon_le : ∀ {l m : List Int}, l.Nodup → (∀ x ∈ l, x ∈ m) → l.length ≤ m.length
  | [], _, _, _ => Nat.zero_le _
  | a :: l, m, hnd, h => by
    have ha := h a (by simp)
    have h1 := pigeon_le (List.nodup_cons.1 hnd).2 (sub_erase hnd h)
    have h2 := List.length_pos_of_mem ha
    rw [List.length_erase_of_mem ha] at h1
    rw [List.length_cons]; omega
theorem pigeon_nodup : ∀ {l m : List Int}, l.Nodup → (∀ x ∈ l, x ∈ m) → m.length ≤ l.length → m.Nodup
  | [], m, _, _, hl => by
    obtain rfl := List.eq_nil_of_length_eq_zero (by simpa using hl)
    exact List.nodup_nil
  | a :: l, m, hnd, h, hl => by
    have ha := h a (by simp)
    have hm := List.length_pos_of_mem ha
    have hle : (m.erase a).length = m.length - 1 := List.length_erase_of_mem ha
    have hs := sub_erase hnd h
    have h1 := pigeon_nodup (List.nodup_cons.1 hnd).2 hs (by rw [hle]; rw [List.length_cons] at hl; omega)
    have h2 : a ∉ m.erase a := fun hin => by
      have := pigeon_le hnd (m := m.erase a) (fun x hx => by
        rcases List.mem_cons.1 hx with rfl | hx
        · exact hin
        · exact hs x hx)
      rw [hle] at this
      rw [List.length_cons] at hl this
      omega
    have hp := List.perm_cons_erase ha
    exact hp.nodup_iff.2 (List.nodup_cons.2 ⟨h2, h1⟩)

/-- The numbers 1 to n. -/
def upTo (n : Nat) : List Int := (List.range n).map fun j : Nat => (j : Int) + 1
theorem upTo_length (n : Nat) : (upTo n).length = n := by simp [upTo]
theorem mem_upTo {n : Nat} {x : Int} : x ∈ upTo n ↔ 1 ≤ x ∧ x ≤ n := by
  unfold upTo
  rw [List.mem_map]
  constructor
  · rintro ⟨j, hj, rfl⟩
    have := List.mem_range.1 hj
    omega
  · rintro ⟨h1, h2⟩
    exact ⟨(x - 1).toNat, List.mem_range.2 (by omega), by omega⟩
theorem upTo_nodup (n : Nat) : (upTo n).Nodup := by
  unfold upTo
  rw [List.nodup_iff_pairwise_ne, List.pairwise_map]
  exact List.nodup_range.imp fun h e => h (by omega)
/-- A list within 1 to n of length n: once each exactly if each is there. -/
theorem nodup_iff_all {l : List Int} (h : ∀ x ∈ l, 1 ≤ x ∧ x ≤ (l.length : Int)) : l.Nodup ↔ ∀ j : Nat, j < l.length → (j : Int) + 1 ∈ l := by
  constructor
  · intro hnd j hj
    by_cases hin : (j : Int) + 1 ∈ l
    · exact hin
    · have := pigeon_le (l := ((j : Int) + 1) :: l) (m := upTo l.length) (List.nodup_cons.2 ⟨hin, hnd⟩) (fun x hx => by
        rcases List.mem_cons.1 hx with rfl | hx
        · exact mem_upTo.2 ⟨by omega, by omega⟩
        · exact mem_upTo.2 (h x hx))
      rw [upTo_length, List.length_cons] at this
      omega
  · intro hall
    refine pigeon_nodup (upTo_nodup l.length) (fun x hx => ?_) (by rw [upTo_length]; exact Nat.le_refl _)
    obtain ⟨h1, h2⟩ := mem_upTo.1 hx
    have := hall (x - 1).toNat (by omega)
    rwa [show (((x - 1).toNat : Nat) : Int) + 1 = x by omega] at this

/-- The eight cells that impl.IsPerm fills. -/
def fnd (l : List Int) : List Int := (List.range 8).map fun j : Nat => if (j : Int) + 1 ∈ l then (j : Int) + 1 else 0
def ascL (n : Nat) : List Int := (List.range 8).map fun j : Nat => if j < n then (j : Int) + 1 else 0
theorem fnd_length (l : List Int) : (fnd l).length = 8 := by simp [fnd]
theorem ascL_length (n : Nat) : (ascL n).length = 8 := by simp [ascL]
theorem fnd_nil : fnd [] = [0, 0, 0, 0, 0, 0, 0, 0] := by decide
theorem ascL_zero : ascL 0 = [0, 0, 0, 0, 0, 0, 0, 0] := by decide
theorem ascL_step (k : Nat) : (ascL k).set k ((k : Int) + 1) = ascL (k + 1) := by
  refine List.ext_getElem (by rw [List.length_set, ascL_length, ascL_length]) fun i h1 h2 => ?_
  simp only [ascL, List.getElem_set, List.getElem_map, List.getElem_range]
  by_cases hk : k = i
  · subst hk; simp
  · simp only [hk, if_false]
    by_cases hi : i < k
    · rw [if_pos hi, if_pos (by omega)]
    · rw [if_neg hi, if_neg (by omega)]
theorem fnd_step {l : List Int} {v : Int} (h1 : 1 ≤ v) (h2 : v ≤ 8) : (fnd l).set (v - 1).toNat v = fnd (l ++ [v]) := by
  refine List.ext_getElem (by rw [List.length_set, fnd_length, fnd_length]) fun i hi1 hi2 => ?_
  simp only [fnd, List.getElem_set, List.getElem_map, List.getElem_range, List.mem_append, List.mem_singleton]
  by_cases hk : (v - 1).toNat = i
  · have e : (i : Int) + 1 = v := by omega
    rw [if_pos hk, if_pos (.inr e)]
    exact e.symm
  · have hne : ¬ ((i : Int) + 1 = v) := by omega
    rw [if_neg hk]
    simp only [hne, or_false]
theorem fnd_asc {l : List Int} (hl : l.length ≤ 8) (h : ∀ x ∈ l, 1 ≤ x ∧ x ≤ (l.length : Int)) : (fnd l == ascL l.length) = isP l := by
  rw [Bool.eq_iff_iff, beq_iff_eq, isP_true]
  unfold IsP
  rw [nodup_iff_all h]
  constructor
  · intro e
    refine ⟨hl, h, fun j hj => ?_⟩
    have := congrArg (fun m => m[j]?) e
    have hj8 : j < 8 := by omega
    simp only [fnd, ascL, List.getElem?_map, List.getElem?_range hj8, Option.map_some, if_pos hj] at this
    by_cases hin : (j : Int) + 1 ∈ l
    · exact hin
    · rw [if_neg hin] at this
      injection this with this
      omega
  · rintro ⟨_, _, hall⟩
    unfold fnd ascL
    refine List.map_congr_left fun j hj => ?_
    by_cases hlt : j < l.length
    · rw [if_pos (hall j hlt), if_pos hlt]
    · rw [if_neg hlt, if_neg]
      intro hin
      have := h _ hin
      omega

/-- What spec.IsPerm has seen of the first k numbers. -/
def Seen (l : List Int) (k : Nat) : Prop := (∀ x ∈ l.take k, 1 ≤ x ∧ x ≤ (l.length : Int)) ∧ (l.take k).Nodup
theorem Seen.zero (l : List Int) : Seen l 0 := ⟨by simp, by simp⟩
theorem Seen.step {l : List Int} {k : Nat} {z : Int} (h : Seen l k) (hz : l[k]? = some z) (h1 : 1 ≤ z ∧ z ≤ (l.length : Int)) (h2 : z ∉ l.take k) : Seen l (k + 1) := by
  unfold Seen
  rw [List.take_add_one, hz]
  simp only [Option.toList_some, List.mem_append, List.mem_singleton]
  refine ⟨fun x hx => ?_, ?_⟩
  · rcases hx with hx | rfl
    · exact h.1 x hx
    · exact h1
  · rw [List.nodup_append]
    refine ⟨h.2, by simp, fun a ha b hb e => ?_⟩
    rw [List.mem_singleton] at hb
    subst hb; subst e
    exact h2 ha
theorem Seen.isP {l : List Int} (h : Seen l l.length) (hl : l.length ≤ 8) : isP l = true := by
  unfold Seen at h
  rw [List.take_length] at h
  exact isP_true.2 ⟨hl, h⟩
theorem isP_no_range {l : List Int} {k : Nat} {z : Int} (hz : l[k]? = some z) (h : ¬ (1 ≤ z ∧ z ≤ (l.length : Int))) : isP l = false :=
  isP_false.2 fun hp => h (hp.2.1 z (List.mem_of_getElem? hz))
theorem isP_no_twice {l : List Int} {k : Nat} {z : Int} (hz : l[k]? = some z) (h : z ∈ l.take k) : isP l = false :=
  isP_false.2 fun hp => by
    have hnd : (l.take (k + 1)).Nodup := hp.2.2.sublist (List.take_sublist _ _)
    rw [List.take_add_one, hz] at hnd
    simp only [Option.toList_some] at hnd
    exact (List.nodup_append.1 hnd).2.2 z h z (by simp) rfl
theorem isP_long {l : List Int} (h : 8 < l.length) : isP l = false := isP_false.2 fun hp => by have := hp.1; omega
theorem take_snoc_i {l : List Int} {k : Nat} {z : Int} (h : l[k]? = some z) : l.take (k + 1) = l.take k ++ [z] := by rw [List.take_add_one, h]; rfl
end Go.Proofs.Ytknjgehcaadomaa
