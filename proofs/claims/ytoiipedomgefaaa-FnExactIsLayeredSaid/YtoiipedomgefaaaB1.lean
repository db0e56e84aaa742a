/-
  Words and contracts that the laws lean on, bundled: PermM, PermB, PermF, SymM, PermP, PermL, SumM, Mem, Ints.
-/
import Derived.Below
import Derived.Laws.OwnMore
import Derived.Deep.AppendLies
import Derived.Deep.Draws
import Derived.WalkKit
import Derived.Test.YtoiipedomgefaaaProg
import Derived.Deep.QuietTactic
import Derived.BigQuiet

/-
  PLAIN: permutations as lists of integers. Nothing here speaks of the program.
-/

namespace Go.Proofs.Ytoiipedomgefaaa
set_option maxRecDepth 100000

/-- Each of the numbers 1 to n once. -/
def IsP (l : List Int) : Prop := l.length ≤ 8 ∧ (∀ x ∈ l, 1 ≤ x ∧ x ≤ (l.length : Int)) ∧ l.Nodup
instance (l : List Int) : Decidable (IsP l) := inferInstanceAs (Decidable (_ ∧ _ ∧ _))
def isP (l : List Int) : Bool := decide (IsP l)
theorem isP_true {l : List Int} : isP l = true ↔ IsP l := by unfold isP; simp
theorem isP_false {l : List Int} : isP l = false ↔ ¬ IsP l := by unfold isP; simp

theorem sub_erase {a : Int} {l m : List Int} (hnd : (a :: l).Nodup) (h : ∀ x ∈ a :: l, x ∈ m) : ∀ x ∈ l, x ∈ m.erase a := fun x hx => by
  have hne : x ≠ a := fun e => by subst e; exact (List.nodup_cons.1 hnd).1 hx
  exact (List.mem_erase_of_ne hne).2 (h x (by simp [hx]))
theorem pigeon_le : ∀ {l m : List Int}, l.Nodup → (∀ x ∈ l, x ∈ m) → l.length ≤ m.length
  | [], _, _, _ => Nat.zero_le _
  | a :: l, m, hnd, h => by
    have ha := h a (by simp)
    have h1 := pigeon_le (List.nodup_cons.1 hnd).2 (sub_erase hnd h)
    have h2 := List.length_pos_of_mem ha
    rw [List.length_erase_of_mem ha] at h1
    rw [List.length_cons]; omega
theorem pigeon_nodup : ∀ {l m : List Int}, l.Nodup → (∀ x ∈ l, x ∈ m) → m.length ≤ l.length → m.Nodup
  | [], m, _, _, hl => by
    obtain rfl := List.eq_nil_of_length_eq_zero (by simpa using hl)
    exact List.nodup_nil
  | a :: l, m, hnd, h, hl => by
    have ha := h a (by simp)
    have hm := List.length_pos_of_mem ha
    have hle : (m.erase a).length = m.length - 1 := List.length_erase_of_mem ha
    have hs := sub_erase hnd h
    have h1 := pigeon_nodup (List.nodup_cons.1 hnd).2 hs (by rw [hle]; rw [List.length_cons] at hl; omega)
    have h2 : a ∉ m.erase a := fun hin => by
      have := pigeon_le hnd (m := m.erase a) (fun x hx => by
        rcases List.mem_cons.1 hx with rfl | hx
        · exact hin
        · exact hs x hx)
      rw [hle] at this
      rw [List.length_cons] at hl this
      omega
    have hp := List.perm_cons_erase ha
    exact hp.nodup_iff.2 (List.nodup_cons.2 ⟨h2, h1⟩)

/-- The numbers 1 to n. -/
def upTo (n : Nat) : List Int := (List.range n).map fun j : Nat => (j : Int) + 1
theorem upTo_length (n : Nat) : (upTo n).length = n := by simp [upTo]
theorem mem_upTo {n : Nat} {x : Int} : x ∈ upTo n ↔ 1 ≤ x ∧ x ≤ n := by
  unfold upTo
  rw [List.mem_map]
  constructor
  · rintro ⟨j, hj, rfl⟩
    have := List.mem_range.1 hj
    omega
  · rintro ⟨h1, h2⟩
    exact ⟨(x - 1).toNat, List.mem_range.2 (by omega), by omega⟩
theorem upTo_nodup (n : Nat) : (upTo n).Nodup := by
  unfold upTo
  rw [List.nodup_iff_pairwise_ne, List.pairwise_map]
  exact List.nodup_range.imp fun h e => h (by omega)
/-- A list within 1 to n of length n: once each exactly if each is there. -/
theorem nodup_iff_all {l : List Int} (h : ∀ x ∈ l, 1 ≤ x ∧ x ≤ (l.length : Int)) : l.Nodup ↔ ∀ j : Nat, j < l.length → (j : Int) + 1 ∈ l := by
  constructor
  · intro hnd j hj
    by_cases hin : (j : Int) + 1 ∈ l
    · exact hin
    · have := pigeon_le (l := ((j : Int) + 1) :: l) (m := upTo l.length) (List.nodup_cons.2 ⟨hin, hnd⟩) (fun x hx => by
        rcases List.mem_cons.1 hx with rfl | hx
        · exact mem_upTo.2 ⟨by omega, by omega⟩
        · exact mem_upTo.2 (h x hx))
      rw [upTo_length, List.length_cons] at this
      omega
  · intro hall
    refine pigeon_nodup (upTo_nodup l.length) (fun x hx => ?_) (by rw [upTo_length]; exact Nat.le_refl _)
    obtain ⟨h1, h2⟩ := mem_upTo.1 hx
    have := hall (x - 1).toNat (by omega)
    rwa [show (((x - 1).toNat : Nat) : Int) + 1 = x by omega] at this

/-- The eight cells that impl.IsPerm fills. -/
def fnd (l : List Int) : List Int := (List.range 8).map fun j : Nat => if (j : Int) + 1 ∈ l then (j : Int) + 1 else 0
def ascL (n : Nat) : List Int := (List.range 8).map fun j : Nat => if j < n then (j : Int) + 1 else 0
theorem fnd_length (l : List Int) : (fnd l).length = 8 := by simp [fnd]
theorem ascL_length (n : Nat) : (ascL n).length = 8 := by simp [ascL]
theorem fnd_nil : fnd [] = [0, 0, 0, 0, 0, 0, 0, 0] := by decide
theorem ascL_zero : ascL 0 = [0, 0, 0, 0, 0, 0, 0, 0] := by decide
theorem ascL_step (k : Nat) : (ascL k).set k ((k : Int) + 1) = ascL (k + 1) := by
  refine List.ext_getElem (by rw [List.length_set, ascL_length, ascL_length]) fun i h1 h2 => ?_
  simp only [ascL, List.getElem_set, List.getElem_map, List.getElem_range]
  by_cases hk : k = i
  · subst hk; simp
  · simp only [hk, if_false]
    by_cases hi : i < k
    · rw [if_pos hi, if_pos (by omega)]
    · rw [if_neg hi, if_neg (by omega)]
theorem fnd_step {l : List Int} {v : Int} (h1 : 1 ≤ v) (h2 : v ≤ 8) : (fnd l).set (v - 1).toNat v = fnd (l ++ [v]) := by
  refine List.ext_getElem (by rw [List.length_set, fnd_length, fnd_length]) fun i hi1 hi2 => ?_
  simp only [fnd, List.getElem_set, List.getElem_map, List.getElem_range, List.mem_append, List.mem_singleton]
  by_cases hk : (v - 1).toNat = i
  · have e : (i : Int) + 1 = v := by omega
    rw [if_pos hk, if_pos (.inr e)]
    exact e.symm
  · have hne : ¬ ((i : Int) + 1 = v) := by omega
    rw [if_neg hk]
    simp only [hne, or_false]
theorem fnd_asc {l : List Int} (hl : l.length ≤ 8) (h : ∀ x ∈ l, 1 ≤ x ∧ x ≤ (l.length : Int)) : (fnd l == ascL l.length) = isP l := by
  rw [Bool.eq_iff_iff, beq_iff_eq, isP_true]
  unfold IsP
  rw [nodup_iff_all h]
  constructor
  · intro e
    refine ⟨hl, h, fun j hj => ?_⟩
    have := congrArg (fun m => m[j]?) e
    have hj8 : j < 8 := by omega
    simp only [fnd, ascL, List.getElem?_map, List.getElem?_range hj8, Option.map_some, if_pos hj] at this
    by_cases hin : (j : Int) + 1 ∈ l
    · exact hin
    · rw [if_neg hin] at this
      injection this with this
      omega
  · rintro ⟨_, _, hall⟩
    unfold fnd ascL
    refine List.map_congr_left fun j hj => ?_
    by_cases hlt : j < l.length
    · rw [if_pos (hall j hlt), if_pos hlt]
    · rw [if_neg hlt, if_neg]
      intro hin
      have := h _ hin
      omega

/-- What spec.IsPerm has seen of the first k numbers. -/
def Seen (l : List Int) (k : Nat) : Prop := (∀ x ∈ l.take k, 1 ≤ x ∧ x ≤ (l.length : Int)) ∧ (l.take k).Nodup
theorem Seen.zero (l : List Int) : Seen l 0 := ⟨by simp, by simp⟩
theorem Seen.step {l : List Int} {k : Nat} {z : Int} (h : Seen l k) (hz : l[k]? = some z) (h1 : 1 ≤ z ∧ z ≤ (l.length : Int)) (h2 : z ∉ l.take k) : Seen l (k + 1) := by
  unfold Seen
  rw [List.take_add_one, hz]
  simp only [Option.toList_some, List.mem_append, List.mem_singleton]
  refine ⟨fun x hx => ?_, ?_⟩
  · rcases hx with hx | rfl
    · exact h.1 x hx
    · exact h1
  · rw [List.nodup_append]
    refine ⟨h.2, by simp, fun a ha b hb e => ?_⟩
    rw [List.mem_singleton] at hb
    subst hb; subst e
    exact h2 ha
theorem Seen.isP {l : List Int} (h : Seen l l.length) (hl : l.length ≤ 8) : isP l = true := by
  unfold Seen at h
  rw [List.take_length] at h
  exact isP_true.2 ⟨hl, h⟩
theorem isP_no_range {l : List Int} {k : Nat} {z : Int} (hz : l[k]? = some z) (h : ¬ (1 ≤ z ∧ z ≤ (l.length : Int))) : isP l = false :=
  isP_false.2 fun hp => h (hp.2.1 z (List.mem_of_getElem? hz))
theorem isP_no_twice {l : List Int} {k : Nat} {z : Int} (hz : l[k]? = some z) (h : z ∈ l.take k) : isP l = false :=
  isP_false.2 fun hp => by
    have hnd : (l.take (k + 1)).Nodup := hp.2.2.sublist (List.take_sublist _ _)
    rw [List.take_add_one, hz] at hnd
    simp only [Option.toList_some] at hnd
    exact (List.nodup_append.1 hnd).2.2 z h z (by simp) rfl
theorem isP_long {l : List Int} (h : 8 < l.length) : isP l = false := isP_false.2 fun hp => by have := hp.1; omega
theorem take_snoc_i {l : List Int} {k : Nat} {z : Int} (h : l[k]? = some z) : l.take (k + 1) = l.take k ++ [z] := by rw [List.take_add_one, h]; rfl
end Go.Proofs.Ytoiipedomgefaaa


/-
  PLAIN: the order of lists. Nothing here speaks of the program.
-/

namespace Go.Proofs.Ytoiipedomgefaaa
set_option maxRecDepth 100000

/-- At the first place where they differ the first is less. -/
def lexL : List Int → List Int → Bool
  | x :: xs, y :: ys => if x = y then lexL xs ys else decide (x < y)
  | _, _ => false
theorem lexL_same : ∀ p : List Int, lexL p p = false
  | [] => rfl
  | x :: xs => by rw [lexL, if_pos rfl]; exact lexL_same xs
theorem lexL_at : ∀ {p q : List Int} {k : Nat} {x y : Int}, p.take k = q.take k → p[k]? = some x → q[k]? = some y → x ≠ y → lexL p q = decide (x < y)
  | a :: p, b :: q, 0, x, y, _, hx, hy, hne => by
    simp at hx hy
    subst hx; subst hy
    rw [lexL, if_neg hne]
  | a :: p, b :: q, k + 1, x, y, h, hx, hy, hne => by
    simp at h
    obtain ⟨rfl, h⟩ := h
    rw [lexL, if_pos rfl]
    exact lexL_at h (by simpa using hx) (by simpa using hy) hne
  | [], _, k, _, _, _, hx, _, _ => by simp at hx
  | _ :: _, [], k, _, _, _, _, hy, _ => by simp at hy
theorem take_same_step {p q : List Int} {k : Nat} {x : Int} (h : p.take k = q.take k) (hx : p[k]? = some x) (hy : q[k]? = some x) : p.take (k + 1) = q.take (k + 1) := by
  rw [List.take_add_one, List.take_add_one, h, hx, hy]
theorem lexL_end {p q : List Int} {n : Nat} (h : p.take n = q.take n) (hp : p.length = n) (hq : q.length = n) : lexL p q = false := by
  rw [List.take_of_length_le (by omega), List.take_of_length_le (by omega)] at h
  rw [h]; exact lexL_same q
def befL (p q : List Int) : Bool := if p.length = q.length then lexL p q else decide (p.length < q.length)
theorem befL_eq {p q : List Int} (h : p.length = q.length) : befL p q = lexL p q := by unfold befL; rw [if_pos h]
theorem befL_ne {p q : List Int} (h : p.length ≠ q.length) : befL p q = decide (p.length < q.length) := by unfold befL; rw [if_neg h]
def bef (p q : List Int) : Bool := isP p && isP q && befL p q
theorem bef_no1 {p q : List Int} (h : isP p = false) : bef p q = false := by simp [bef, h]
theorem bef_no2 {p q : List Int} (h : isP q = false) : bef p q = false := by simp [bef, h]
theorem bef_yes {p q : List Int} (h : isP p = true) (h' : isP q = true) : bef p q = befL p q := by simp [bef, h, h']
end Go.Proofs.Ytoiipedomgefaaa


/-
  PLAIN: the lists that the functions of chapter 2 give. Nothing here speaks of the program.
-/

namespace Go.Proofs.Ytoiipedomgefaaa
set_option maxRecDepth 100000

/-- Below b, or not: the value at a place, 0 where there is none. -/
def at0 (l : List Int) (k : Nat) : Int := l.getD k 0
theorem at0_of {l : List Int} {k : Nat} {z : Int} (h : l[k]? = some z) : at0 l k = z := by unfold at0; rw [List.getD_eq_getElem?_getD, h]; rfl
theorem at0_some {l : List Int} {k : Nat} (h : k < l.length) : l[k]? = some (at0 l k) := by
  unfold at0
  rw [List.getD_eq_getElem?_getD, List.getElem?_eq_getElem h]; rfl

/-- The inverse, filled in k rounds. -/
def invFill (l : List Int) : Nat → List Int
  | 0 => List.replicate l.length 0
  | k + 1 => (invFill l k).set ((at0 l k).toNat - 1) ((k : Int) + 1)
theorem invFill_length (l : List Int) : ∀ k, (invFill l k).length = l.length
  | 0 => by simp [invFill]
  | k + 1 => by rw [invFill, List.length_set, invFill_length l k]
theorem invFill_step {l : List Int} {k : Nat} {z : Int} (h : l[k]? = some z) : (invFill l k).set (z.toNat - 1) ((k : Int) + 1) = invFill l (k + 1) := by rw [invFill, at0_of h]
def invR (l : List Int) : List Int := if isP l then invFill l l.length else []
theorem invR_yes {l : List Int} (h : isP l = true) : invR l = invFill l l.length := by unfold invR; rw [if_pos h]
theorem invR_no {l : List Int} (h : isP l = false) : invR l = [] := by unfold invR; rw [if_neg (by simp [h])]
theorem isP_le {l : List Int} (h : isP l = true) : l.length ≤ 8 := (isP_true.1 h).1
theorem isP_range {l : List Int} (h : isP l = true) {k : Nat} {z : Int} (hz : l[k]? = some z) : 1 ≤ z ∧ z ≤ (l.length : Int) := (isP_true.1 h).2.1 z (List.mem_of_getElem? hz)
theorem invR_le (l : List Int) : (invR l).length ≤ 8 := by
  cases h : isP l with
  | true => rw [invR_yes h, invFill_length]; exact isP_le h
  | false => rw [invR_no h]; simp

/-- The composition, its first k values. -/
def compL (p q : List Int) (k : Nat) : List Int := (List.range k).map fun j => at0 p ((at0 q j).toNat - 1)
theorem compL_length (p q : List Int) (k : Nat) : (compL p q k).length = k := by simp [compL]
theorem compL_zero (p q : List Int) : compL p q 0 = [] := rfl
theorem compL_step {p q : List Int} {k : Nat} {z y : Int} (hz : q[k]? = some z) (hy : p[z.toNat - 1]? = some y) : compL p q (k + 1) = compL p q k ++ [y] := by
  unfold compL
  rw [List.range_succ, List.map_append, List.map_singleton, at0_of hz, at0_of hy]
theorem compL_at {p q : List Int} {k n : Nat} {z y : Int} (h : k < n) (hz : q[k]? = some z) (hy : p[z.toNat - 1]? = some y) : (compL p q n)[k]? = some y := by
  unfold compL
  rw [List.getElem?_map, List.getElem?_range h, Option.map_some, at0_of hz, at0_of hy]
def compOK (p q : List Int) : Bool := isP p && isP q && decide (p.length = q.length)
def compR (p q : List Int) : List Int := if compOK p q then compL p q q.length else []
theorem compR_yes {p q : List Int} (h : compOK p q = true) : compR p q = compL p q q.length := by unfold compR; rw [if_pos h]
theorem compR_no {p q : List Int} (h : compOK p q = false) : compR p q = [] := by unfold compR; rw [if_neg (by simp [h])]
theorem compOK_yes {p q : List Int} (h1 : isP p = true) (h2 : isP q = true) (h3 : p.length = q.length) : compOK p q = true := by simp [compOK, h1, h2, h3]
theorem compOK_no1 {p q : List Int} (h : isP p = false) : compOK p q = false := by simp [compOK, h]
theorem compOK_no2 {p q : List Int} (h : isP q = false) : compOK p q = false := by simp [compOK, h]
theorem compOK_no3 {p q : List Int} (h : p.length ≠ q.length) : compOK p q = false := by simp [compOK, h]
theorem compR_le (p q : List Int) : (compR p q).length ≤ 8 := by
  cases h : compOK p q with
  | true =>
    rw [compR_yes h, compL_length]
    simp only [compOK, Bool.and_eq_true, decide_eq_true_eq] at h
    exact isP_le h.1.2
  | false => rw [compR_no h]; simp

/-- The identity. -/
def idR (n : Int) : List Int := if 1 ≤ n ∧ n ≤ 8 then upTo n.toNat else []
theorem idR_yes {n : Int} (h1 : 1 ≤ n) (h2 : n ≤ 8) : idR n = upTo n.toNat := by unfold idR; rw [if_pos ⟨h1, h2⟩]
theorem idR_no {n : Int} (h : ¬ (1 ≤ n ∧ n ≤ 8)) : idR n = [] := by unfold idR; rw [if_neg h]
theorem idR_le (n : Int) : (idR n).length ≤ 8 := by
  unfold idR
  by_cases h : 1 ≤ n ∧ n ≤ 8
  · rw [if_pos h, upTo_length]; omega
  · rw [if_neg h]; simp
theorem upTo_step (k : Nat) : upTo (k + 1) = upTo k ++ [(k : Int) + 1] := by unfold upTo; rw [List.range_succ, List.map_append, List.map_singleton]
theorem upTo_asc {n : Nat} (h : n ≤ 8) : (ascL n).take n = upTo n := by
  refine List.ext_getElem (by rw [List.length_take, ascL_length, upTo_length]; omega) fun i h1 h2 => ?_
  rw [upTo_length] at h2
  simp only [ascL, upTo, List.getElem_take, List.getElem_map, List.getElem_range, h2, if_true]
end Go.Proofs.Ytoiipedomgefaaa


/-
  PLAIN: lists of lists in order, each once; the symmetries of a permutation. Nothing here speaks of the program.
-/

namespace Go.Proofs.Ytoiipedomgefaaa
set_option maxRecDepth 100000

/-! the order -/
theorem lexL_trans : ∀ {p q r : List Int}, lexL p q = true → lexL q r = true → lexL p r = true
  | [], _, _, h, _ => by simp [lexL] at h
  | _ :: _, [], _, h, _ => by simp [lexL] at h
  | _ :: _, _ :: _, [], _, h => by simp [lexL] at h
  | x :: p, y :: q, z :: r, h1, h2 => by
    rw [lexL] at h1 h2 ⊢
    by_cases e1 : x = y
    · subst e1
      rw [if_pos rfl] at h1
      by_cases e2 : x = z
      · subst e2
        rw [if_pos rfl] at h2 ⊢
        exact lexL_trans h1 h2
      · rw [if_neg e2] at h2 ⊢
        exact h2
    · rw [if_neg e1] at h1
      by_cases e2 : y = z
      · subst e2
        rw [if_neg e1]
        exact h1
      · rw [if_neg e2] at h2
        simp only [decide_eq_true_eq] at h1 h2
        rw [if_neg (by omega)]
        simp only [decide_eq_true_eq]
        omega
theorem lexL_total : ∀ {p q : List Int}, p.length = q.length → lexL p q = false → lexL q p = false → p = q
  | [], [], _, _, _ => rfl
  | [], _ :: _, h, _, _ => by simp at h
  | _ :: _, [], h, _, _ => by simp at h
  | x :: p, y :: q, h, h1, h2 => by
    rw [lexL] at h1 h2
    by_cases e : x = y
    · subst e
      rw [if_pos rfl] at h1 h2
      rw [lexL_total (by simpa using h) h1 h2]
    · rw [if_neg e] at h1
      rw [if_neg (fun h => e h.symm)] at h2
      simp only [decide_eq_false_iff_not] at h1 h2
      omega
theorem befL_irrefl (p : List Int) : befL p p = false := by rw [befL_eq rfl]; exact lexL_same p
theorem befL_trans {p q r : List Int} (h1 : befL p q = true) (h2 : befL q r = true) : befL p r = true := by
  unfold befL at h1 h2 ⊢
  by_cases e1 : p.length = q.length
  · rw [if_pos e1] at h1
    by_cases e2 : q.length = r.length
    · rw [if_pos e2] at h2
      rw [if_pos (by omega)]
      exact lexL_trans h1 h2
    · rw [if_neg e2] at h2
      rw [if_neg (by omega)]
      simp only [decide_eq_true_eq] at h2 ⊢
      omega
  · rw [if_neg e1] at h1
    simp only [decide_eq_true_eq] at h1
    by_cases e2 : q.length = r.length
    · rw [if_neg (by omega)]
      simp only [decide_eq_true_eq]
      omega
    · rw [if_neg e2] at h2
      simp only [decide_eq_true_eq] at h2
      rw [if_neg (by omega)]
      simp only [decide_eq_true_eq]
      omega
theorem befL_total {p q : List Int} (h1 : befL p q = false) (h2 : befL q p = false) : p = q := by
  unfold befL at h1 h2
  by_cases e : p.length = q.length
  · rw [if_pos e] at h1
    rw [if_pos e.symm] at h2
    exact lexL_total e h1 h2
  · rw [if_neg e] at h1
    rw [if_neg (fun h => e h.symm)] at h2
    simp only [decide_eq_false_iff_not] at h1 h2
    omega
theorem befL_asymm {p q : List Int} (h : befL p q = true) : befL q p = false := by
  cases h2 : befL q p with
  | false => rfl
  | true => have := befL_trans h h2; rw [befL_irrefl] at this; cases this
theorem befL_of_ne {p q : List Int} (h : befL q p = false) (hne : p ≠ q) : befL p q = true := by
  cases h2 : befL p q with
  | true => rfl
  | false => exact absurd (befL_total h2 h) hne
/-- p is not behind q, q before r. -/
theorem befL_le_lt {p q r : List Int} (h1 : befL q p = false) (h2 : befL q r = true) : befL p r = true := by
  by_cases e : p = q
  · subst e; exact h2
  · exact befL_trans (befL_of_ne h1 e) h2

/-! in order, each once -/
def Asc (l : List (List Int)) : Prop := l.Pairwise fun a b => befL a b = true
theorem asc_unique : ∀ {a b : List (List Int)}, Asc a → Asc b → (∀ x, x ∈ a ↔ x ∈ b) → a = b
  | [], [], _, _, _ => rfl
  | [], y :: b, _, _, h => by have := (h y).2 (by simp); simp at this
  | x :: a, [], _, _, h => by have := (h x).1 (by simp); simp at this
  | x :: a, y :: b, ha, hb, h => by
    have ha' := List.pairwise_cons.1 ha
    have hb' := List.pairwise_cons.1 hb
    have e : x = y := by
      rcases List.mem_cons.1 ((h x).1 (by simp)) with e | hx
      · exact e
      · rcases List.mem_cons.1 ((h y).2 (by simp)) with e | hy
        · exact e.symm
        · have h1 := hb'.1 x hx
          have h2 := ha'.1 y hy
          rw [befL_asymm h1] at h2
          cases h2
    subst e
    have : a = b := asc_unique ha'.2 hb'.2 fun z => by
      have hz := h z
      constructor
      · intro hin
        rcases List.mem_cons.1 (hz.1 (by simp [hin])) with e | h2
        · subst e
          have := ha'.1 z hin
          rw [befL_irrefl] at this
          cases this
        · exact h2
      · intro hin
        rcases List.mem_cons.1 (hz.2 (by simp [hin])) with e | h2
        · subst e
          have := hb'.1 z hin
          rw [befL_irrefl] at this
          cases this
        · exact h2
    rw [this]

/-- Where spec.l3Put stands. -/
def scanL (l : List (List Int)) (p : List Int) : Nat → Nat
  | 0 => 0
  | k + 1 => if befL p (l.getD k []) then scanL l p k else k + 1
theorem getD_of {α : Type} {l : List α} {k : Nat} {z d : α} (h : l[k]? = some z) : l.getD k d = z := by rw [List.getD_eq_getElem?_getD, h]; rfl
theorem scanL_yes {l : List (List Int)} {p z : List Int} {k : Nat} (hz : l[k]? = some z) (h : befL p z = true) : scanL l p (k + 1) = scanL l p k := by rw [scanL, getD_of hz, if_pos h]
theorem scanL_no {l : List (List Int)} {p z : List Int} {k : Nat} (hz : l[k]? = some z) (h : befL p z = false) : scanL l p (k + 1) = k + 1 := by rw [scanL, getD_of hz, if_neg (by simp [h])]
theorem scanL_le (l : List (List Int)) (p : List Int) : ∀ k, scanL l p k ≤ k
  | 0 => Nat.le_refl _
  | k + 1 => by
    rw [scanL]
    by_cases h : befL p (l.getD k []) = true
    · rw [if_pos h]; have := scanL_le l p k; omega
    · rw [if_neg h]; exact Nat.le_refl _
theorem scanL_above (l : List (List Int)) (p : List Int) : ∀ k j, scanL l p k ≤ j → j < k → befL p (l.getD j []) = true
  | 0, j, _, h => by omega
  | k + 1, j, h1, h2 => by
    rw [scanL] at h1
    by_cases h : befL p (l.getD k []) = true
    · rw [if_pos h] at h1
      by_cases e : j = k
      · subst e; exact h
      · exact scanL_above l p k j h1 (by omega)
    · rw [if_neg h] at h1; omega
theorem scanL_at (l : List (List Int)) (p : List Int) : ∀ k m, scanL l p k = m + 1 → befL p (l.getD m []) = false
  | 0, m, h => by simp [scanL] at h
  | k + 1, m, h => by
    rw [scanL] at h
    by_cases hb : befL p (l.getD k []) = true
    · rw [if_pos hb] at h; exact scanL_at l p k m h
    · rw [if_neg hb] at h
      obtain rfl : k = m := by omega
      simpa using hb
def putL (l : List (List Int)) (p : List Int) : List (List Int) :=
  if 0 < scanL l p l.length ∧ l.getD (scanL l p l.length - 1) [] = p then l else l.take (scanL l p l.length) ++ [p] ++ l.drop (scanL l p l.length)
theorem putL_len (l : List (List Int)) (p : List Int) : l.length ≤ (putL l p).length ∧ (putL l p).length ≤ l.length + 1 := by
  unfold putL
  have := scanL_le l p l.length
  split
  · omega
  · simp; omega
theorem mem_putL {l : List (List Int)} {p x : List Int} : x ∈ putL l p ↔ x ∈ l ∨ x = p := by
  unfold putL
  split
  · next h =>
    constructor
    · exact .inl
    · rintro (h1 | rfl)
      · exact h1
      · have hlt : scanL l x l.length - 1 < l.length := by have := scanL_le l x l.length; omega
        have := h.2
        rw [List.getD_eq_getElem?_getD, List.getElem?_eq_getElem hlt] at this
        exact this ▸ List.getElem_mem hlt
  · have := List.take_append_drop (scanL l p l.length) l
    constructor
    · intro h
      simp only [List.mem_append, List.mem_singleton] at h
      rcases h with (h | h) | h
      · exact .inl (List.mem_of_mem_take h)
      · exact .inr h
      · exact .inl (List.mem_of_mem_drop h)
    · rintro (h | rfl)
      · rw [← this, List.mem_append] at h
        simp only [List.mem_append, List.mem_singleton]
        rcases h with h | h
        · exact .inl (.inl h)
        · exact .inr h
      · simp
theorem asc_putL {l : List (List Int)} {p : List Int} (h : Asc l) : Asc (putL l p) := by
  unfold putL
  split
  · exact h
  · next hno =>
    have hle := scanL_le l p l.length
    have hab := scanL_above l p l.length
    have hat := scanL_at l p l.length
    generalize scanL l p l.length = s at *
    have hlow : ∀ a ∈ l.take s, befL a p = true := by
      intro a ha
      obtain ⟨i, hi, rfl⟩ := List.getElem_of_mem ha
      rw [List.length_take] at hi
      rw [List.getElem_take]
      have h1 := hat (s - 1) (by omega)
      have h2 : l.getD (s - 1) [] ≠ p := fun e => hno ⟨by omega, e⟩
      rw [List.getD_eq_getElem?_getD, List.getElem?_eq_getElem (by omega : s - 1 < l.length)] at h1 h2
      have h3 := befL_of_ne h1 h2
      by_cases e : i = s - 1
      · subst e; exact h3
      · exact befL_trans (List.pairwise_iff_getElem.1 h i (s - 1) (by omega) (by omega) (by omega)) h3
    have hup : ∀ b ∈ l.drop s, befL p b = true := by
      intro b hb
      obtain ⟨i, hi, rfl⟩ := List.getElem_of_mem hb
      rw [List.length_drop] at hi
      rw [List.getElem_drop]
      have := hab (s + i) (by omega) (by omega)
      rwa [List.getD_eq_getElem?_getD, List.getElem?_eq_getElem (by omega : s + i < l.length)] at this
    unfold Asc
    rw [List.append_assoc, List.pairwise_append]
    refine ⟨h.sublist (List.take_sublist _ _), ?_, ?_⟩
    · rw [List.singleton_append, List.pairwise_cons]
      exact ⟨hup, h.sublist (List.drop_sublist _ _)⟩
    · intro a ha b hb
      rw [List.singleton_append, List.mem_cons] at hb
      rcases hb with rfl | hb
      · exact hlow a ha
      · exact befL_trans (hlow a ha) (hup b hb)
def ordL (l : List (List Int)) (k : Nat) : List (List Int) := (l.take k).foldl putL []
theorem ordL_zero (l : List (List Int)) : ordL l 0 = [] := by simp [ordL]
theorem ordL_step {l : List (List Int)} {k : Nat} {z : List Int} (h : l[k]? = some z) : ordL l (k + 1) = putL (ordL l k) z := by
  unfold ordL
  rw [List.take_add_one, h]
  simp
theorem foldl_put : ∀ (l : List (List Int)) (a : List (List Int)), Asc a → Asc (l.foldl putL a) ∧ (∀ x, x ∈ l.foldl putL a ↔ x ∈ a ∨ x ∈ l) ∧ (l.foldl putL a).length ≤ a.length + l.length
  | [], a, h => ⟨h, fun x => by simp, by simp⟩
  | p :: l, a, h => by
    obtain ⟨h1, h2, h3⟩ := foldl_put l (putL a p) (asc_putL h)
    refine ⟨h1, fun x => ?_, ?_⟩
    · rw [List.foldl_cons, h2 x, mem_putL, List.mem_cons, or_assoc]
    · have := (putL_len a p).2
      rw [List.foldl_cons, List.length_cons]
      omega
theorem ordL_asc (l : List (List Int)) (k : Nat) : Asc (ordL l k) := (foldl_put _ [] List.Pairwise.nil).1
theorem ordL_mem {l : List (List Int)} {k : Nat} {x : List Int} : x ∈ ordL l k ↔ x ∈ l.take k := by
  unfold ordL
  rw [(foldl_put _ [] List.Pairwise.nil).2.1 x]
  simp
theorem ordL_len (l : List (List Int)) (k : Nat) : (ordL l k).length ≤ l.length := by
  have := (foldl_put (l.take k) [] List.Pairwise.nil).2.2
  unfold ordL
  rw [List.length_take] at this
  simp only [List.length_nil] at this
  omega
def allP (l : List (List Int)) : Bool := l.all isP
theorem allP_no {l : List (List Int)} {z : List Int} (h : z ∈ l) (hz : isP z = false) : allP l = false := by
  unfold allP
  rw [List.all_eq_false]
  exact ⟨z, h, by simp [hz]⟩
theorem allP_at {l : List (List Int)} {z : List Int} (h : allP l = true) (hz : z ∈ l) : isP z = true := by
  unfold allP at h
  rw [List.all_eq_true] at h
  exact h z hz
theorem allP_yes {l : List (List Int)} (h : ∀ z ∈ l, isP z = true) : allP l = true := by
  unfold allP
  rw [List.all_eq_true]
  exact h
def ordR (l : List (List Int)) : List (List Int) := if allP l then ordL l l.length else []
theorem ordR_yes {l : List (List Int)} (h : allP l = true) : ordR l = ordL l l.length := by unfold ordR; rw [if_pos h]
theorem ordR_no {l : List (List Int)} (h : allP l = false) : ordR l = [] := by unfold ordR; rw [if_neg (by simp [h])]
theorem ordR_len (l : List (List Int)) : (ordR l).length ≤ l.length := by
  cases h : allP l with
  | true => rw [ordR_yes h]; exact ordL_len _ _
  | false => rw [ordR_no h]; exact Nat.zero_le _
theorem ordR_mem {l : List (List Int)} {x : List Int} (h : x ∈ ordR l) : isP x = true := by
  cases hp : allP l with
  | true =>
    rw [ordR_yes hp, ordL_mem, List.take_length] at h
    exact allP_at hp h
  | false => rw [ordR_no hp] at h; simp at h

/-! neighbors that are equal, left out -/
section
variable {α : Type} (f : α → List Int)
/-- Of the first k the ones that differ from the one before. -/
def keepN (xs : List α) : Nat → List α
  | 0 => []
  | k + 1 => match xs[k]? with
    | none => keepN xs k
    | some x => if 0 < k ∧ (xs[k - 1]?).map f = some (f x) then keepN xs k else keepN xs k ++ [x]
variable {f}
theorem keepN_same {xs : List α} {k : Nat} {x y : α} (h : xs[k]? = some x) (hk : 0 < k) (hy : xs[k - 1]? = some y) (he : f y = f x) : keepN f xs (k + 1) = keepN f xs k := by
  rw [keepN, h]
  simp only
  rw [if_pos ⟨hk, by rw [hy, Option.map_some, he]⟩]
theorem keepN_new {xs : List α} {k : Nat} {x y : α} (h : xs[k]? = some x) (hy : xs[k - 1]? = some y) (he : f y ≠ f x) : keepN f xs (k + 1) = keepN f xs k ++ [x] := by
  rw [keepN, h]
  simp only
  rw [if_neg]
  rintro ⟨_, e⟩
  rw [hy, Option.map_some] at e
  exact he (Option.some.inj e)
theorem keepN_one {xs : List α} {x : α} (h : xs[0]? = some x) : keepN f xs 1 = [x] := by
  rw [keepN, h]
  simp only
  rw [if_neg (by omega), keepN]
  rfl
theorem keepN_sub (xs : List α) : ∀ k, (keepN f xs k).Sublist (xs.take k)
  | 0 => by simp [keepN]
  | k + 1 => by
    rw [keepN]
    cases h : xs[k]? with
    | none =>
      simp only
      refine (keepN_sub xs k).trans ?_
      rw [List.take_add_one, h]
      simp
    | some x =>
      simp only
      rw [List.take_add_one, h]
      split
      · exact (keepN_sub xs k).trans (List.sublist_append_left _ _)
      · exact (keepN_sub xs k).append (List.Sublist.refl _)
theorem keepN_sorted {xs : List α} (hs : ∀ (i j : Nat) (x y : α), i < j → xs[i]? = some x → xs[j]? = some y → befL (f y) (f x) = false) :
    ∀ k, k ≤ xs.length → Asc ((keepN f xs k).map f) ∧ ∀ z, z ∈ (keepN f xs k).map f ↔ z ∈ (xs.take k).map f
  | 0, _ => ⟨by simp [keepN, Asc], fun z => by simp [keepN]⟩
  | k + 1, hk => by
    obtain ⟨h1, h2⟩ := keepN_sorted hs k (by omega)
    have hx : xs[k]? = some xs[k] := List.getElem?_eq_getElem (by omega)
    have ht : xs.take (k + 1) = xs.take k ++ [xs[k]] := by rw [List.take_add_one, hx]; rfl
    generalize xs[k] = x at hx ht
    cases k with
    | zero =>
      rw [keepN_one hx, ht]
      simp [Asc]
    | succ k =>
      have hy : xs[k]? = some xs[k] := List.getElem?_eq_getElem (by omega)
      generalize xs[k] = y at hy
      by_cases e : f y = f x
      · rw [keepN_same hx (by omega) (by simpa using hy) e, ht]
        refine ⟨h1, fun z => ?_⟩
        rw [h2 z, List.map_append, List.mem_append]
        simp only [List.map_cons, List.map_nil, List.mem_singleton]
        constructor
        · exact .inl
        · rintro (h | h)
          · exact h
          · subst h
            rw [← e]
            refine List.mem_map.2 ⟨y, ?_, rfl⟩
            rw [List.take_add_one, hy]
            simp
      · rw [keepN_new hx (by simpa using hy) e, ht]
        refine ⟨?_, fun z => ?_⟩
        · unfold Asc
          rw [List.map_append, List.pairwise_append]
          refine ⟨h1, by simp, fun a ha b hb => ?_⟩
          simp only [List.map_cons, List.map_nil, List.mem_singleton] at hb
          subst hb
          obtain ⟨a', ha', rfl⟩ := List.mem_map.1 ((h2 a).1 ha)
          obtain ⟨i, hi, rfl⟩ := List.getElem_of_mem ha'
          rw [List.length_take] at hi
          rw [List.getElem_take]
          have hyx : befL (f y) (f x) = true := befL_of_ne (hs k (k + 1) y x (by omega) hy hx) e
          by_cases ei : i = k
          · subst ei
            have : xs[i] = y := by
              rw [List.getElem?_eq_getElem (by omega)] at hy
              exact Option.some.inj hy
            rw [this]; exact hyx
          · exact befL_le_lt (hs i k _ y (by omega) (List.getElem?_eq_getElem (by omega)) hy) hyx
        · rw [List.map_append, List.map_append, List.mem_append, List.mem_append, h2 z]
end

/-! the symmetries -/
/-- n + 1 - v for each v. -/
def cplL (p : List Int) : List Int := p.map fun v => (p.length : Int) + 1 - v
theorem cplL_length (p : List Int) : (cplL p).length = p.length := by simp [cplL]
theorem cplL_at {p : List Int} {k : Nat} {z : Int} (h : p[k]? = some z) : (cplL p)[k]? = some ((p.length : Int) + 1 - z) := by
  unfold cplL
  rw [List.getElem?_map, h]; rfl
theorem isP_cpl {p : List Int} (h : isP p = true) : isP (cplL p) = true := by
  rw [isP_true] at h ⊢
  obtain ⟨h1, h2, h3⟩ := h
  refine ⟨by rw [cplL_length]; exact h1, fun x hx => ?_, ?_⟩
  · unfold cplL at hx
    obtain ⟨v, hv, rfl⟩ := List.mem_map.1 hx
    have := h2 v hv
    rw [cplL_length]
    omega
  · unfold cplL
    rw [List.nodup_iff_pairwise_ne, List.pairwise_map]
    exact h3.imp fun hne e => hne (by omega)
theorem isP_rev {p : List Int} (h : isP p = true) : isP p.reverse = true := by
  rw [isP_true] at h ⊢
  obtain ⟨h1, h2, h3⟩ := h
  refine ⟨by rw [List.length_reverse]; exact h1, fun x hx => by rw [List.length_reverse]; exact h2 x (List.mem_reverse.1 hx), ?_⟩
  rw [List.nodup_iff_pairwise_ne, List.pairwise_reverse]
  exact (List.nodup_iff_pairwise_ne.1 h3).imp fun h e => h e.symm
theorem invFill_at {l : List Int} (hr : ∀ x ∈ l, 1 ≤ x ∧ x ≤ (l.length : Int)) (hn : l.Nodup) : ∀ k i z, i < k → k ≤ l.length → l[i]? = some z → (invFill l k)[z.toNat - 1]? = some ((i : Int) + 1)
  | 0, i, z, h, _, _ => by omega
  | k + 1, i, z, h, hk, hz => by
    have hy : l[k]? = some l[k] := List.getElem?_eq_getElem (by omega)
    generalize l[k] = y at hy
    rw [← invFill_step hy]
    have hzr := hr z (List.mem_of_getElem? hz)
    have hyr := hr y (List.mem_of_getElem? hy)
    by_cases e : i = k
    · subst e
      obtain rfl : y = z := by rw [hy] at hz; exact Option.some.inj hz
      rw [List.getElem?_set_self (by rw [invFill_length]; omega)]
    · have hne : y ≠ z := fun e2 => by
        subst e2
        have hi : i < l.length := by omega
        rw [List.getElem?_eq_getElem hi] at hz
        rw [List.getElem?_eq_getElem (by omega : k < l.length)] at hy
        have := (List.pairwise_iff_getElem.1 (List.nodup_iff_pairwise_ne.1 hn)) i k hi (by omega) (by omega)
        exact this ((Option.some.inj hz).trans (Option.some.inj hy).symm)
      rw [List.getElem?_set_ne (by omega)]
      exact invFill_at hr hn k i z (by omega) (by omega) hz
theorem isP_inv {p : List Int} (h : isP p = true) : isP (invFill p p.length) = true := by
  rw [isP_true] at h ⊢
  obtain ⟨h1, h2, h3⟩ := h
  have hat := fun i z hi hz => invFill_at h2 h3 p.length i z hi (Nat.le_refl _) hz
  have hrange : ∀ x ∈ invFill p p.length, 1 ≤ x ∧ x ≤ ((invFill p p.length).length : Int) := by
    intro x hx
    rw [invFill_length]
    obtain ⟨j, hj, rfl⟩ := List.getElem_of_mem hx
    rw [invFill_length] at hj
    have hin := (nodup_iff_all h2).1 h3 j hj
    obtain ⟨i, hi, he⟩ := List.getElem_of_mem hin
    have := hat i ((j : Int) + 1) hi (by rw [List.getElem?_eq_getElem hi, he])
    rw [show ((j : Int) + 1).toNat - 1 = j by omega, List.getElem?_eq_getElem (by rw [invFill_length]; exact hj)] at this
    rw [Option.some.inj this]
    omega
  refine ⟨by rw [invFill_length]; exact h1, hrange, (nodup_iff_all hrange).2 fun j hj => ?_⟩
  rw [invFill_length] at hj
  exact List.mem_of_getElem? (hat j p[j] hj (List.getElem?_eq_getElem hj))

/-- The steps that are asked for by the three lowest digits of k. -/
def sym1 (p : List Int) (k : Nat) : List Int := if k % 2 = 1 then invFill p p.length else p
def sym2 (p : List Int) (k : Nat) : List Int := if k / 2 % 2 = 1 then (sym1 p k).reverse else sym1 p k
def symL (p : List Int) (k : Nat) : List Int := if 4 ≤ k then cplL (sym2 p k) else sym2 p k
theorem sym1_isP {p : List Int} (h : isP p = true) (k : Nat) : isP (sym1 p k) = true := by
  unfold sym1
  split
  · exact isP_inv h
  · exact h
theorem sym2_isP {p : List Int} (h : isP p = true) (k : Nat) : isP (sym2 p k) = true := by
  unfold sym2
  split
  · exact isP_rev (sym1_isP h k)
  · exact sym1_isP h k
theorem symL_isP {p : List Int} (h : isP p = true) (k : Nat) : isP (symL p k) = true := by
  unfold symL
  split
  · exact isP_cpl (sym2_isP h k)
  · exact sym2_isP h k
def revR (p : List Int) : List Int := if isP p then p.reverse else []
def cplR (p : List Int) : List Int := if isP p then cplL p else []
def symOK (p : List Int) (k : Int) : Bool := isP p && decide (0 ≤ k ∧ k ≤ 7)
def symR (p : List Int) (k : Int) : List Int := if symOK p k then symL p k.toNat else []
theorem revR_yes {p : List Int} (h : isP p = true) : revR p = p.reverse := by unfold revR; rw [if_pos h]
theorem revR_no {p : List Int} (h : isP p = false) : revR p = [] := by unfold revR; rw [if_neg (by simp [h])]
theorem cplR_yes {p : List Int} (h : isP p = true) : cplR p = cplL p := by unfold cplR; rw [if_pos h]
theorem cplR_no {p : List Int} (h : isP p = false) : cplR p = [] := by unfold cplR; rw [if_neg (by simp [h])]
theorem symOK_yes {p : List Int} {k : Int} (h : isP p = true) (hk : 0 ≤ k ∧ k ≤ 7) : symOK p k = true := by simp [symOK, h, hk]
theorem symOK_no1 {p : List Int} {k : Int} (h : isP p = false) : symOK p k = false := by simp [symOK, h]
theorem symOK_no2 {p : List Int} {k : Int} (hk : ¬ (0 ≤ k ∧ k ≤ 7)) : symOK p k = false := by simp [symOK, hk]
theorem symR_yes {p : List Int} {k : Int} (h : symOK p k = true) : symR p k = symL p k.toNat := by unfold symR; rw [if_pos h]
theorem symR_no {p : List Int} {k : Int} (h : symOK p k = false) : symR p k = [] := by unfold symR; rw [if_neg (by simp [h])]
theorem revR_le (p : List Int) : (revR p).length ≤ 8 := by
  cases h : isP p with
  | true => rw [revR_yes h, List.length_reverse]; exact isP_le h
  | false => rw [revR_no h]; simp
theorem cplR_le (p : List Int) : (cplR p).length ≤ 8 := by
  cases h : isP p with
  | true => rw [cplR_yes h, cplL_length]; exact isP_le h
  | false => rw [cplR_no h]; simp
theorem symR_le (p : List Int) (k : Int) : (symR p k).length ≤ 8 := by
  cases h : symOK p k with
  | true =>
    rw [symR_yes h]
    simp only [symOK, Bool.and_eq_true] at h
    exact isP_le (symL_isP h.1 _)
  | false => rw [symR_no h]; simp
/-- The eight images, the first k. -/
def imgs (p : List Int) (k : Nat) : List (List Int) := (List.range k).map fun j => symL p j
theorem imgs_length (p : List Int) (k : Nat) : (imgs p k).length = k := by simp [imgs]
theorem imgs_at {p : List Int} {k j : Nat} (h : j < k) : (imgs p k)[j]? = some (symL p j) := by
  unfold imgs
  rw [List.getElem?_map, List.getElem?_range h]; rfl
theorem imgs_all {p : List Int} (h : isP p = true) (k : Nat) : allP (imgs p k) = true := allP_yes fun z hz => by
  unfold imgs at hz
  obtain ⟨j, _, rfl⟩ := List.mem_map.1 hz
  exact symL_isP h j
def clsR (p : List Int) : List (List Int) := if isP p then ordR (imgs p 8) else []
theorem clsR_yes {p : List Int} (h : isP p = true) : clsR p = ordR (imgs p 8) := by unfold clsR; rw [if_pos h]
theorem clsR_no {p : List Int} (h : isP p = false) : clsR p = [] := by unfold clsR; rw [if_neg (by simp [h])]
theorem clsR_len (p : List Int) : (clsR p).length ≤ 8 := by
  cases h : isP p with
  | true => rw [clsR_yes h]; have := ordR_len (imgs p 8); rw [imgs_length] at this; exact this
  | false => rw [clsR_no h]; simp
theorem clsR_mem {p x : List Int} (h : x ∈ clsR p) : isP x = true := by
  cases hp : isP p with
  | true => rw [clsR_yes hp] at h; exact ordR_mem h
  | false => rw [clsR_no hp] at h; simp at h
theorem clsR_ne {p : List Int} (h : isP p = true) : clsR p ≠ [] := by
  rw [clsR_yes h, ordR_yes (imgs_all h 8)]
  intro e
  have : symL p 0 ∈ ordL (imgs p 8) (imgs p 8).length := by
    rw [ordL_mem, List.take_length]
    exact List.mem_of_getElem? (imgs_at (by omega : 0 < 8))
  rw [e] at this
  simp at this
def leastR (p : List Int) : List Int := (clsR p).headD []
theorem leastR_le (p : List Int) : (leastR p).length ≤ 8 := by
  unfold leastR
  cases h : clsR p with
  | nil => simp
  | cons x l => exact isP_le (clsR_mem (p := p) (by rw [h]; simp))
def invol (p : List Int) : Bool := isP p && decide (p = invFill p p.length)
theorem invol_no {p : List Int} (h : isP p = false) : invol p = false := by simp [invol, h]
theorem invol_yes {p : List Int} (h : isP p = true) : invol p = decide (p = invFill p p.length) := by simp [invol, h]
end Go.Proofs.Ytoiipedomgefaaa


/-
  PLAIN: the pattern of a list. Nothing here speaks of the program.
-/

namespace Go.Proofs.Ytoiipedomgefaaa
set_option maxRecDepth 100000

/-- How many are less than v. -/
def cnt (l : List Int) (v : Int) : Nat := (l.filter fun x => decide (x < v)).length
theorem cnt_nil (v : Int) : cnt [] v = 0 := rfl
theorem cnt_cons (x : Int) (l : List Int) (v : Int) : cnt (x :: l) v = (if x < v then 1 else 0) + cnt l v := by
  unfold cnt
  rw [List.filter_cons]
  by_cases h : x < v
  · simp [h]; omega
  · simp [h]
theorem cnt_snoc (l : List Int) (x v : Int) : cnt (l ++ [x]) v = cnt l v + if x < v then 1 else 0 := by
  unfold cnt
  rw [List.filter_append, List.length_append, List.filter_cons]
  by_cases h : x < v <;> simp [h]
theorem cnt_le (l : List Int) (v : Int) : cnt l v ≤ l.length := by unfold cnt; exact List.length_filter_le _ _
theorem cnt_mono : ∀ (l : List Int) {v v' : Int}, v ≤ v' → cnt l v ≤ cnt l v'
  | [], _, _, _ => Nat.le_refl _
  | x :: l, v, v', h => by
    have := cnt_mono l h
    rw [cnt_cons, cnt_cons]
    by_cases h1 : x < v
    · rw [if_pos h1, if_pos (by omega)]; omega
    · rw [if_neg h1]; omega
theorem cnt_lt : ∀ {l : List Int} {v v' : Int}, v ∈ l → v < v' → cnt l v + 1 ≤ cnt l v'
  | x :: l, v, v', hm, h => by
    rw [cnt_cons, cnt_cons]
    rcases List.mem_cons.1 hm with rfl | hm
    · have := cnt_mono l (v := v) (v' := v') (by omega)
      rw [if_neg (by omega), if_pos h]; omega
    · have := cnt_lt hm h
      by_cases h1 : x < v
      · rw [if_pos h1, if_pos (by omega)]; omega
      · rw [if_neg h1]; omega
theorem cnt_mem : ∀ {l : List Int} {v : Int}, v ∈ l → cnt l v + 1 ≤ l.length
  | x :: l, v, hm => by
    rw [cnt_cons, List.length_cons]
    rcases List.mem_cons.1 hm with rfl | hm
    · have := cnt_le l v
      rw [if_neg (by omega)]; omega
    · have := cnt_mem hm
      by_cases h1 : x < v
      · rw [if_pos h1]; omega
      · rw [if_neg h1]; omega
def patL (l : List Int) : List Int := l.map fun v => 1 + (cnt l v : Int)
theorem patL_length (l : List Int) : (patL l).length = l.length := by simp [patL]
theorem patL_at {l : List Int} {k : Nat} {z : Int} (h : l[k]? = some z) : (patL l)[k]? = some (1 + (cnt l z : Int)) := by unfold patL; rw [List.getElem?_map, h]; rfl
theorem patL_take {l : List Int} {k : Nat} {z : Int} (h : l[k]? = some z) : (patL l).take (k + 1) = (patL l).take k ++ [1 + (cnt l z : Int)] := take_snoc_i (patL_at h)
theorem patL_range {l : List Int} : ∀ x ∈ patL l, 1 ≤ x ∧ x ≤ (l.length : Int) := by
  intro x hx
  unfold patL at hx
  obtain ⟨v, hv, rfl⟩ := List.mem_map.1 hx
  have := cnt_mem hv
  omega
def patOK (l : List Int) : Bool := decide (l.length ≤ 8 ∧ l.Nodup)
theorem patOK_no8 {l : List Int} (h : 8 < l.length) : patOK l = false := by unfold patOK; simp; omega
theorem patOK_yes {l : List Int} (h : l.length ≤ 8) (h' : l.Nodup) : patOK l = true := by unfold patOK; simp [h, h']
theorem patOK_twice {l : List Int} {k : Nat} {z : Int} (hz : l[k]? = some z) (h : z ∈ l.take k) : patOK l = false := by
  unfold patOK
  rw [decide_eq_false_iff_not]
  rintro ⟨_, hn⟩
  have hnd : (l.take (k + 1)).Nodup := hn.sublist (List.take_sublist _ _)
  rw [take_snoc_i hz] at hnd
  exact (List.nodup_append.1 hnd).2.2 z h z (by simp) rfl
theorem nodup_step {l : List Int} {k : Nat} {z : Int} (hz : l[k]? = some z) (h : z ∉ l.take k) (hn : (l.take k).Nodup) : (l.take (k + 1)).Nodup := by
  rw [take_snoc_i hz, List.nodup_append]
  refine ⟨hn, by simp, fun a ha b hb e => ?_⟩
  rw [List.mem_singleton] at hb
  subst hb; subst e
  exact h ha
theorem nodup_of_map {f : Int → Int} : ∀ {l : List Int}, (l.map f).Nodup → l.Nodup
  | [], _ => List.nodup_nil
  | a :: l, h => by
    rw [List.map_cons, List.nodup_cons] at h
    exact List.nodup_cons.2 ⟨fun hm => h.1 (List.mem_map.2 ⟨a, hm, rfl⟩), nodup_of_map h.2⟩
theorem nodup_map {f : Int → Int} : ∀ {l : List Int}, (∀ a ∈ l, ∀ b ∈ l, f a = f b → a = b) → l.Nodup → (l.map f).Nodup
  | [], _, _ => List.nodup_nil
  | a :: l, hf, h => by
    rw [List.nodup_cons] at h
    rw [List.map_cons, List.nodup_cons]
    refine ⟨fun hm => ?_, nodup_map (fun x hx y hy => hf x (by simp [hx]) y (by simp [hy])) h.2⟩
    obtain ⟨b, hb, e⟩ := List.mem_map.1 hm
    have := hf b (by simp [hb]) a (by simp) e
    subst this
    exact h.1 hb
theorem isP_pat (l : List Int) : isP (patL l) = patOK l := by
  rw [Bool.eq_iff_iff, isP_true]
  unfold patOK IsP
  rw [decide_eq_true_eq, patL_length]
  constructor
  · rintro ⟨h1, _, h3⟩
    exact ⟨h1, nodup_of_map h3⟩
  · rintro ⟨h1, h2⟩
    refine ⟨h1, patL_range, nodup_map (fun a ha b hb e => ?_) h2⟩
    rcases Int.lt_trichotomy a b with h | h | h
    · have := cnt_lt ha h; omega
    · exact h
    · have := cnt_lt hb h; omega
def patR (l : List Int) : List Int := if patOK l then patL l else []
theorem patR_yes {l : List Int} (h : patOK l = true) : patR l = patL l := by unfold patR; rw [if_pos h]
theorem patR_no {l : List Int} (h : patOK l = false) : patR l = [] := by unfold patR; rw [if_neg (by simp [h])]
theorem patR_le (l : List Int) : (patR l).length ≤ 8 := by
  cases h : patOK l with
  | true =>
    rw [patR_yes h, patL_length]
    unfold patOK at h
    simp at h
    exact h.1
  | false => rw [patR_no h]; simp
end Go.Proofs.Ytoiipedomgefaaa


/-
  PLAIN: the list of all permutations of a length, made in two ways. Nothing here speaks of the program.
-/

namespace Go.Proofs.Ytoiipedomgefaaa
set_option maxRecDepth 100000

/-- All ways to go on from hd with d more of the numbers 1 to n. -/
def fillL (n : Nat) : Nat → List Int → List (List Int)
  | 0, hd => [hd]
  | d + 1, hd => (upTo n).flatMap fun v => if v ∈ hd then [] else fillL n d (hd ++ [v])
theorem fillL_zero (n : Nat) (hd : List Int) : fillL n 0 hd = [hd] := rfl
/-- .. with the next one among the first k numbers. -/
def fillK (n d : Nat) (hd : List Int) (k : Nat) : List (List Int) := (upTo k).flatMap fun v => if v ∈ hd then [] else fillL n d (hd ++ [v])
theorem fillK_zero (n d : Nat) (hd : List Int) : fillK n d hd 0 = [] := rfl
theorem fillK_all (n d : Nat) (hd : List Int) : fillK n d hd n = fillL n (d + 1) hd := rfl
theorem fillK_in {n d k : Nat} {hd : List Int} (h : (k : Int) + 1 ∈ hd) : fillK n d hd (k + 1) = fillK n d hd k := by
  unfold fillK
  rw [upTo_step, List.flatMap_append, List.flatMap_cons, List.flatMap_nil, if_pos h]
  simp
theorem fillK_out {n d k : Nat} {hd : List Int} (h : (k : Int) + 1 ∉ hd) : fillK n d hd (k + 1) = fillK n d hd k ++ fillL n d (hd ++ [(k : Int) + 1]) := by
  unfold fillK
  rw [upTo_step, List.flatMap_append, List.flatMap_cons, List.flatMap_nil, if_neg h]
  simp
/-- f ahead of r, whose numbers from f on are raised. -/
def up (f v : Int) : Int := if f ≤ v then v + 1 else v
def behind (f : Int) (r : List Int) : List Int := f :: r.map (up f)
def permL : Nat → List (List Int)
  | 0 => [[]]
  | n + 1 => (upTo (n + 1)).flatMap fun f => (permL n).map (behind f)
def permK (n j : Nat) : List (List Int) := (upTo j).flatMap fun f => (permL n).map (behind f)
theorem permK_all (n : Nat) : permK n (n + 1) = permL (n + 1) := rfl
theorem permK_step (n j : Nat) : permK n (j + 1) = permK n j ++ (permL n).map (behind ((j : Int) + 1)) := by
  unfold permK
  rw [upTo_step, List.flatMap_append, List.flatMap_cons, List.flatMap_nil]
  simp
def permI (n j i : Nat) : List (List Int) := permK n j ++ ((permL n).take i).map (behind ((j : Int) + 1))
theorem permI_zero (n j : Nat) : permI n j 0 = permK n j := by simp [permI]
theorem permI_all (n j : Nat) : permI n j (permL n).length = permK n (j + 1) := by
  unfold permI
  rw [permK_step, List.take_of_length_le (Nat.le_refl _)]
theorem permI_step {n j i : Nat} {r : List Int} (h : (permL n)[i]? = some r) : permI n j (i + 1) = permI n j i ++ [behind ((j : Int) + 1) r] := by
  unfold permI
  rw [List.take_add_one, h, List.map_append, ← List.append_assoc]
  rfl
theorem fillK_mono (n d : Nat) (hd : List Int) (k j : Nat) : (fillK n d hd k).length ≤ (fillK n d hd (k + j)).length := by
  induction j with
  | zero => exact Nat.le_refl _
  | succ j ih =>
    refine Nat.le_trans ih ?_
    by_cases h : ((k + j : Nat) : Int) + 1 ∈ hd
    · rw [← Nat.add_assoc, fillK_in h]; exact Nat.le_refl _
    · rw [← Nat.add_assoc, fillK_out h, List.length_append]; omega
theorem permK_length (n : Nat) : ∀ j, (permK n j).length = j * (permL n).length
  | 0 => by simp [permK, upTo]
  | j + 1 => by rw [permK_step, List.length_append, permK_length n j, List.length_map, Nat.add_mul, Nat.one_mul]
theorem permI_length (n j i : Nat) (h : i ≤ (permL n).length) : (permI n j i).length = j * (permL n).length + i := by
  unfold permI
  rw [List.length_append, permK_length, List.length_map, List.length_take]
  omega
theorem behind_step {f : Int} {r : List Int} {k : Nat} {z : Int} (h : r[k]? = some z) : f :: (r.take (k + 1)).map (up f) = (f :: (r.take k).map (up f)) ++ [up f z] := by
  rw [take_snoc_i h, List.map_append]; rfl
theorem up_yes {f v : Int} (h : f ≤ v) : up f v = v + 1 := by unfold up; rw [if_pos h]
theorem up_no {f v : Int} (h : v < f) : up f v = v := by unfold up; rw [if_neg (by omega)]
theorem behind_length (f : Int) (r : List Int) : (behind f r).length = r.length + 1 := by simp [behind]
theorem two_ways : ∀ n : Nat, n ≤ 6 → fillL n n [] = permL n := by decide +kernel
/-- How many numbers in all. -/
def tot (zss : List (List Int)) : Nat := (zss.map List.length).sum
theorem permL_small : ∀ n : Nat, n ≤ 6 → (permL n).length ≤ 720 ∧ tot (permL n) ≤ 4320 := by decide +kernel
theorem permL_rows : ∀ n : Nat, n ≤ 6 → ∀ r ∈ permL n, r.length = n ∧ ∀ x ∈ r, 1 ≤ x ∧ x ≤ 6 := by decide +kernel
def permsR (m : Int) : List (List Int) := if 0 ≤ m ∧ m ≤ 6 then permL m.toNat else []
theorem permsR_yes {n : Nat} (h : n ≤ 6) : permsR (n : Int) = permL n := by unfold permsR; rw [if_pos (by omega), Int.toNat_natCast]
theorem permsR_no {m : Int} (h : ¬ (0 ≤ m ∧ m ≤ 6)) : permsR m = [] := by unfold permsR; rw [if_neg h]
theorem permsR_small (m : Int) : (permsR m).length ≤ 720 ∧ tot (permsR m) ≤ 4320 := by
  by_cases h : 0 ≤ m ∧ m ≤ 6
  · obtain ⟨n, rfl⟩ : ∃ n : Nat, m = (n : Int) := ⟨m.toNat, by omega⟩
    rw [permsR_yes (by omega)]
    exact permL_small n (by omega)
  · rw [permsR_no h]; simp [tot]
theorem tot_snoc (a : List (List Int)) (b : List Int) : tot (a ++ [b]) = tot a + b.length := by simp [tot]
theorem tot_take (zss : List (List Int)) (i : Nat) : tot (zss.take i) ≤ tot zss := by
  have h : tot zss = tot (zss.take i) + tot (zss.drop i) := by
    unfold tot
    rw [← List.sum_append, ← List.map_append, List.take_append_drop]
  omega
theorem tot_step {zss : List (List Int)} {i : Nat} {z : List Int} (h : zss[i]? = some z) : tot (zss.take (i + 1)) = tot (zss.take i) + z.length := by
  rw [List.take_add_one, h]; exact tot_snoc _ _
end Go.Proofs.Ytoiipedomgefaaa


/-
  PLAIN: sums of permutations, the parts of a sum, what is layered.
-/

namespace Go.Proofs.Ytoiipedomgefaaa
set_option maxRecDepth 100000

/-- Two lists, one above the other one. -/
def joinL (skew : Bool) (p q : List Int) : List Int :=
  if skew then p.map (fun v => v + (q.length : Int)) ++ q else p ++ q.map (fun v => v + (p.length : Int))
theorem joinL_length (s : Bool) (p q : List Int) : (joinL s p q).length = p.length + q.length := by cases s <;> simp [joinL]
def fit (p q : List Int) : Bool := isP p && isP q && decide (p.length + q.length ≤ 8)
def joinR (s : Bool) (p q : List Int) : List Int := if fit p q then joinL s p q else []
theorem joinR_yes {s : Bool} {p q : List Int} (h : fit p q = true) : joinR s p q = joinL s p q := by unfold joinR; rw [if_pos h]
theorem joinR_no {s : Bool} {p q : List Int} (h : fit p q = false) : joinR s p q = [] := by unfold joinR; rw [if_neg (by simp [h])]
theorem fit_yes {p q : List Int} (h1 : isP p = true) (h2 : isP q = true) (h3 : p.length + q.length ≤ 8) : fit p q = true := by simp [fit, h1, h2, h3]
theorem fit_no1 {p q : List Int} (h1 : isP p = false) : fit p q = false := by simp [fit, h1]
theorem fit_no2 {p q : List Int} (h1 : isP q = false) : fit p q = false := by simp [fit, h1]
theorem fit_no3 {p q : List Int} (h1 : ¬ p.length + q.length ≤ 8) : fit p q = false := by simp [fit]; omega
theorem fit_all {p q : List Int} (h : fit p q = true) : isP p = true ∧ isP q = true ∧ p.length + q.length ≤ 8 := by simpa [fit, and_assoc] using h
theorem joinR_le (s : Bool) (p q : List Int) : (joinR s p q).length ≤ 8 := by
  cases h : fit p q with
  | true => rw [joinR_yes h, joinL_length]; exact (fit_all h).2.2
  | false => rw [joinR_no h]; simp
theorem isP_nil : isP [] = true := by decide
theorem isP_join {s : Bool} {p q : List Int} (h : fit p q = true) : isP (joinL s p q) = true := by
  obtain ⟨hp, hq, hl⟩ := fit_all h
  obtain ⟨_, hpr, hpn⟩ := isP_true.1 hp
  obtain ⟨_, hqr, hqn⟩ := isP_true.1 hq
  have inj : ∀ (c : Int) (l : List Int), l.Nodup → (l.map (fun v => v + c)).Nodup := fun c l hn => nodup_map (fun a _ b _ e => by omega) hn
  refine isP_true.2 ⟨by rw [joinL_length]; exact hl, ?_, ?_⟩
  · rw [joinL_length]
    intro x hx
    cases s with
    | true =>
      simp only [joinL, if_true, List.mem_append, List.mem_map] at hx
      rcases hx with ⟨v, hv, rfl⟩ | hx
      · have := hpr v hv; omega
      · have := hqr x hx; omega
    | false =>
      simp only [joinL, Bool.false_eq_true, if_false, List.mem_append, List.mem_map] at hx
      rcases hx with hx | ⟨v, hv, rfl⟩
      · have := hpr x hx; omega
      · have := hqr v hv; omega
  · cases s with
    | true =>
      simp only [joinL, if_true]
      refine List.nodup_append.2 ⟨inj _ _ hpn, hqn, fun a ha b hb e => ?_⟩
      obtain ⟨v, hv, rfl⟩ := List.mem_map.1 ha
      have := hpr v hv; have := hqr b hb; omega
    | false =>
      simp only [joinL, Bool.false_eq_true, if_false]
      refine List.nodup_append.2 ⟨hpn, inj _ _ hqn, fun a ha b hb e => ?_⟩
      obtain ⟨v, hv, rfl⟩ := List.mem_map.1 hb
      have := hpr a ha; have := hqr v hv; omega

/-- All elements of a list joined, as long as they fit. -/
def joinAll (s : Bool) (l : List (List Int)) : List Int := l.foldl (joinL s) []
def allFit (l : List (List Int)) : Bool := allP l && decide (tot l ≤ 8)
theorem joinAll_snoc (s : Bool) (l : List (List Int)) (z : List Int) : joinAll s (l ++ [z]) = joinL s (joinAll s l) z := by simp [joinAll]
theorem joinAll_length (s : Bool) (l : List (List Int)) : (joinAll s l).length = tot l := by
  have : ∀ (l : List (List Int)) (a : List Int), (l.foldl (joinL s) a).length = a.length + tot l := fun l => by
    induction l with
    | nil => intro a; simp [tot]
    | cons z l ih => intro a; rw [List.foldl_cons, ih, joinL_length]; simp [tot]; omega
  rw [joinAll, this]; simp
theorem joinAll_isP {s : Bool} (l : List (List Int)) (hp : allP l = true) (ht : tot l ≤ 8) : isP (joinAll s l) = true := by
  have : ∀ (l : List (List Int)) (a : List Int), isP a = true → allP l = true → a.length + tot l ≤ 8 → isP (l.foldl (joinL s) a) = true := fun l => by
    induction l with
    | nil => intro a ha _ _; exact ha
    | cons z l ih =>
      intro a ha hl ht
      have ht' : a.length + (z.length + tot l) ≤ 8 := by simpa [tot] using ht
      rw [List.foldl_cons]
      exact ih _ (isP_join (fit_yes ha (allP_at hl (by simp)) (by omega))) (allP_yes fun x hx => allP_at hl (by simp [hx])) (by rw [joinL_length]; omega)
  exact this l [] isP_nil hp (by simpa using ht)
def joinsR (s : Bool) (l : List (List Int)) : List Int := if allFit l then joinAll s l else []
theorem joinsR_yes {s : Bool} {l : List (List Int)} (h : allFit l = true) : joinsR s l = joinAll s l := by unfold joinsR; rw [if_pos h]
theorem joinsR_no {s : Bool} {l : List (List Int)} (h : allFit l = false) : joinsR s l = [] := by unfold joinsR; rw [if_neg (by simp [h])]
theorem joinsR_le (s : Bool) (l : List (List Int)) : (joinsR s l).length ≤ 8 := by
  cases h : allFit l with
  | true =>
    rw [joinsR_yes h, joinAll_length]
    simp [allFit] at h; exact h.2
  | false => rw [joinsR_no h]; simp
theorem allFit_no1 {l : List (List Int)} {z : List Int} (h : z ∈ l) (hz : isP z = false) : allFit l = false := by simp [allFit, allP_no h hz]
theorem allFit_no2 {l : List (List Int)} (h : 8 < tot l) : allFit l = false := by simp [allFit]; omega
theorem allFit_yes {l : List (List Int)} (h : ∀ z ∈ l, isP z = true) (ht : tot l ≤ 8) : allFit l = true := by simp [allFit, allP_yes h, ht]
theorem take_snoc_r {l : List (List Int)} {k : Nat} {z : List Int} (h : l[k]? = some z) : l.take (k + 1) = l.take k ++ [z] := by rw [List.take_add_one, h]; rfl
theorem tot_take' {l : List (List Int)} {k : Nat} {z : List Int} (h : l[k]? = some z) : tot (l.take (k + 1)) = tot (l.take k) + z.length := by rw [take_snoc_r h, tot_snoc]
theorem tot_take_le (l : List (List Int)) (k : Nat) : tot (l.take k) ≤ tot l := by
  have this : ∀ a b : List (List Int), tot (a ++ b) = tot a + tot b := fun a b => by simp [tot]
  have h := this (l.take k) (l.drop k)
  rw [List.take_append_drop] at h
  omega
theorem joinAll_take {s : Bool} {l : List (List Int)} {k : Nat} {z : List Int} (h : l[k]? = some z) : joinAll s (l.take (k + 1)) = joinL s (joinAll s (l.take k)) z := by rw [take_snoc_r h, joinAll_snoc]

/-- The flat form: each element raised at once. -/
def flatAll (s : Bool) (L : Nat) : List (List Int) → Nat → List Int
  | [], _ => []
  | z :: l, n => z.map (fun v => v + ((if s then L - n - z.length else n : Nat) : Int)) ++ flatAll s L l (n + z.length)
theorem flatAll_snoc (s : Bool) (L : Nat) : ∀ (l : List (List Int)) (n : Nat) (z : List Int), flatAll s L (l ++ [z]) n = flatAll s L l n ++ z.map (fun v => v + ((if s then L - (n + tot l) - z.length else n + tot l : Nat) : Int))
  | [], n, z => by simp [flatAll, tot]
  | y :: l, n, z => by
    rw [List.cons_append, flatAll, flatAll, flatAll_snoc s L l]
    have e : n + y.length + tot l = n + tot (y :: l) := by simp [tot]; omega
    rw [e, List.append_assoc]
theorem flatAll_more (L m : Nat) : ∀ (l : List (List Int)) (n : Nat), n + tot l ≤ L → flatAll true (L + m) l n = (flatAll true L l n).map (fun v => v + (m : Int))
  | [], _, _ => by simp [flatAll]
  | y :: l, n, h => by
    have h' : n + (y.length + tot l) ≤ L := by simpa [tot] using h
    rw [flatAll, flatAll, flatAll_more L m l _ (by omega), List.map_append, List.map_map]
    congr 1
    refine List.map_congr_left fun v _ => ?_
    simp only [if_true, Function.comp]
    omega
theorem flat_join (s : Bool) (l : List (List Int)) : flatAll s (tot l) l 0 = joinAll s l := by
  have : ∀ (k : Nat), k ≤ l.length → flatAll s (tot (l.take k)) (l.take k) 0 = joinAll s (l.take k) := fun k => by
    induction k with
    | zero => intro _; simp [flatAll, joinAll]
    | succ k ih =>
      intro hk
      obtain ⟨z, hz⟩ : ∃ z, l[k]? = some z := ⟨_, List.getElem?_eq_getElem (by omega)⟩
      rw [joinAll_take hz, ← ih (by omega), tot_take' hz, take_snoc_r hz, flatAll_snoc]
      have hlen : (flatAll s (tot (l.take k)) (l.take k) 0).length = tot (l.take k) := by rw [ih (by omega), joinAll_length]
      cases s with
      | true =>
        rw [flatAll_more _ _ _ _ (by omega)]
        simp only [joinL, if_true]
        congr 1
        have : tot (l.take k) + z.length - (0 + tot (l.take k)) - z.length = 0 := by omega
        rw [this]
        simp
      | false =>
        simp only [joinL, Bool.false_eq_true, if_false, hlen]
        have e : ∀ L L' n, flatAll false L (l.take k) n = flatAll false L' (l.take k) n := fun L L' n => by
          generalize l.take k = m
          induction m generalizing n with
          | nil => rfl
          | cons y m ih => simp only [flatAll, Bool.false_eq_true, if_false]; rw [ih]
        rw [e _ (tot (l.take k)) 0]
        simp
  have h := this l.length (Nat.le_refl _)
  rwa [List.take_length] at h

/-- The greatest of a list and 0. -/
def most (l : List Int) : Int := l.foldl max 0
theorem most_take {l : List Int} {k : Nat} {z : Int} (h : l[k]? = some z) : most (l.take (k + 1)) = max (most (l.take k)) z := by rw [take_snoc_i h]; simp [most]
/-- Where the part that is under way began; the parts that ended. -/
def frm (p : List Int) : Nat → Nat
  | 0 => 0
  | k + 1 => if most (p.take (k + 1)) = (k : Int) + 1 then k + 1 else frm p k
def prt (p : List Int) : Nat → List (List Int)
  | 0 => []
  | k + 1 => if most (p.take (k + 1)) = (k : Int) + 1 then prt p k ++ [patL ((p.drop (frm p k)).take (k + 1 - frm p k))] else prt p k
theorem frm_le (p : List Int) : ∀ k, frm p k ≤ k
  | 0 => Nat.le_refl _
  | k + 1 => by
    rw [frm]
    have := frm_le p k
    split <;> omega
theorem frm_yes {p : List Int} {k : Nat} (h : most (p.take (k + 1)) = (k : Int) + 1) : frm p (k + 1) = k + 1 := by rw [frm, if_pos h]
theorem frm_no {p : List Int} {k : Nat} (h : ¬ most (p.take (k + 1)) = (k : Int) + 1) : frm p (k + 1) = frm p k := by rw [frm, if_neg h]
theorem prt_yes {p : List Int} {k : Nat} (h : most (p.take (k + 1)) = (k : Int) + 1) : prt p (k + 1) = prt p k ++ [patL ((p.drop (frm p k)).take (k + 1 - frm p k))] := by rw [prt, if_pos h]
theorem prt_no {p : List Int} {k : Nat} (h : ¬ most (p.take (k + 1)) = (k : Int) + 1) : prt p (k + 1) = prt p k := by rw [prt, if_neg h]
theorem prt_len (p : List Int) : ∀ k, (prt p k).length ≤ k
  | 0 => Nat.le_refl _
  | k + 1 => by
    rw [prt]
    have := prt_len p k
    split
    · rw [List.length_append]; simp; omega
    · omega
theorem prt_tot (p : List Int) : ∀ k, tot (prt p k) ≤ frm p k
  | 0 => by simp [prt, tot]
  | k + 1 => by
    have h1 := prt_tot p k
    have h2 := frm_le p k
    by_cases h : most (p.take (k + 1)) = (k : Int) + 1
    · rw [prt_yes h, frm_yes h, tot_snoc, patL_length, List.length_take]; omega
    · rw [prt_no h, frm_no h]; exact h1
theorem nodup_cut {p : List Int} (h : p.Nodup) (a b : Nat) : ((p.drop a).take b).Nodup := (List.nodup_iff_pairwise_ne.1 h).sublist ((List.take_sublist _ _).trans (List.drop_sublist _ _)) |> List.nodup_iff_pairwise_ne.2
theorem patOK_cut {p : List Int} (h : isP p = true) (a b : Nat) : patOK ((p.drop a).take b) = true := by
  obtain ⟨h8, _, hn⟩ := isP_true.1 h
  exact patOK_yes (by rw [List.length_take, List.length_drop]; omega) (nodup_cut hn a b)
theorem prt_isP {p : List Int} (h : isP p = true) : ∀ k z, z ∈ prt p k → isP z = true
  | 0, z, hz => by simp [prt] at hz
  | k + 1, z, hz => by
    by_cases hm : most (p.take (k + 1)) = (k : Int) + 1
    · rw [prt_yes hm] at hz
      rcases List.mem_append.1 hz with hz | hz
      · exact prt_isP h k z hz
      · obtain rfl := List.mem_singleton.1 hz
        rw [isP_pat]; exact patOK_cut h _ _
    · rw [prt_no hm] at hz
      exact prt_isP h k z hz
def partsR (p : List Int) : List (List Int) := if isP p then prt p p.length else []
theorem partsR_yes {p : List Int} (h : isP p = true) : partsR p = prt p p.length := by unfold partsR; rw [if_pos h]
theorem partsR_no {p : List Int} (h : isP p = false) : partsR p = [] := by unfold partsR; rw [if_neg (by simp [h])]
theorem partsR_isP {p z : List Int} (hz : z ∈ partsR p) : isP z = true := by
  cases h : isP p with
  | true => rw [partsR_yes h] at hz; exact prt_isP h _ z hz
  | false => rw [partsR_no h] at hz; simp at hz
theorem partsR_small (p : List Int) : (partsR p).length ≤ 8 ∧ tot (partsR p) ≤ 8 := by
  cases h : isP p with
  | true =>
    have := isP_le h
    have := prt_len p p.length
    have := prt_tot p p.length
    have := frm_le p p.length
    rw [partsR_yes h]; omega
  | false => rw [partsR_no h]; simp [tot]
theorem partsR_allP (p : List Int) : allP (partsR p) = true := allP_yes fun _ hz => partsR_isP hz
def skewsR (p : List Int) : List (List Int) := if isP p then (partsR (cplL p)).map cplL else []
theorem skewsR_yes {p : List Int} (h : isP p = true) : skewsR p = (partsR (cplL p)).map cplL := by unfold skewsR; rw [if_pos h]
theorem skewsR_no {p : List Int} (h : isP p = false) : skewsR p = [] := by unfold skewsR; rw [if_neg (by simp [h])]
theorem tot_map_cpl : ∀ l : List (List Int), tot (l.map cplL) = tot l
  | [] => rfl
  | z :: l => by
    have := tot_map_cpl l
    simp only [tot, List.map_cons, List.map_map] at this ⊢
    rw [List.sum_cons, List.sum_cons, this, cplL_length]
theorem skewsR_small (p : List Int) : (skewsR p).length ≤ 8 ∧ tot (skewsR p) ≤ 8 := by
  cases h : isP p with
  | true => rw [skewsR_yes h, tot_map_cpl, List.length_map]; exact partsR_small _
  | false => rw [skewsR_no h]; simp [tot]
theorem skewsR_isP {p z : List Int} (hz : z ∈ skewsR p) : isP z = true := by
  cases h : isP p with
  | true =>
    rw [skewsR_yes h] at hz
    obtain ⟨y, hy, rfl⟩ := List.mem_map.1 hz
    exact isP_cpl (partsR_isP hy)
  | false => rw [skewsR_no h] at hz; simp at hz
/-- What is layered. -/
def layer (p : List Int) : Bool := isP p && (partsR p).all fun z => decide (z.reverse = upTo z.length)
theorem layer_no {p : List Int} (h : isP p = false) : layer p = false := by simp [layer, h]
theorem layer_at {p z : List Int} (hz : z ∈ partsR p) (h : z.reverse ≠ upTo z.length) : layer p = false := by
  unfold layer
  rw [Bool.and_eq_false_iff]
  right
  rw [List.all_eq_false]
  exact ⟨z, hz, by simpa using h⟩
theorem layer_yes {p : List Int} (h : isP p = true) (hz : ∀ z ∈ partsR p, z.reverse = upTo z.length) : layer p = true := by
  unfold layer
  rw [h, Bool.true_and, List.all_eq_true]
  exact fun z hz' => by simpa using hz z hz'
/-- A permutation in ascending order is 1, 2, and so on. -/
theorem asc_upTo {l : List Int} (h : isP l = true) (hs : ∀ i, i + 1 < l.length → at0 l i ≤ at0 l (i + 1)) : l = upTo l.length := by
  obtain ⟨_, hr, hn⟩ := isP_true.1 h
  have hlt : ∀ i j, i < j → j < l.length → at0 l i < at0 l j := fun i j => by
    induction j with
    | zero => intro h; omega
    | succ j ih =>
      intro hij hj
      have h1 := hs j hj
      have hne : at0 l j ≠ at0 l (j + 1) := fun e => by
        have := (List.getElem?_inj (i := j) (j := j + 1) (by omega) hn).1 (by rw [at0_some (by omega), at0_some hj, e])
        omega
      by_cases hij' : i = j
      · subst hij'; omega
      · have := ih (by omega) (by omega); omega
  have hlo : ∀ i, i < l.length → (i : Int) + 1 ≤ at0 l i := fun i => by
    induction i with
    | zero => intro hi; have := hr _ (List.mem_of_getElem? (at0_some hi)); omega
    | succ i ih => intro hi; have := ih (by omega); have := hlt i (i + 1) (by omega) hi; omega
  have hhi : ∀ d i, i < l.length → i + d + 1 = l.length → at0 l i ≤ (i : Int) + 1 := fun d => by
    induction d with
    | zero => intro i hi e; have := hr _ (List.mem_of_getElem? (at0_some hi)); omega
    | succ d ih => intro i hi e; have := ih (i + 1) (by omega) (by omega); have := hlt i (i + 1) (by omega) (by omega); omega
  refine List.ext_getElem? fun i => ?_
  by_cases hi : i < l.length
  · rw [at0_some hi]
    have h1 := hlo i hi
    have h2 := hhi (l.length - i - 1) i hi (by omega)
    unfold upTo
    rw [List.getElem?_map, List.getElem?_range hi]
    simp only [Option.map_some]
    congr 1
    omega
  · rw [List.getElem?_eq_none (by omega), List.getElem?_eq_none (by rw [upTo_length]; omega)]
end Go.Proofs.Ytoiipedomgefaaa


/-
  WORDS FOR MEMORY: a slice that reads as a list of values (nil let in), and what keeps it; a row of the call's own. Plain lemmas: nothing here speaks of the program.
-/

namespace Go.Proofs.Ytoiipedomgefaaa
set_option maxRecDepth 100000
open Go.RowKit

theorem block_of_add (a : Addr) (n : Nat) : (a.add n).block = a.block := by unfold Addr.add; split <;> rfl
theorem add_of_add (a : Addr) (i j : Nat) : (a.add i).add j = a.add (i + j) := by
  unfold Addr.add
  by_cases hi : i = 0 <;> by_cases hj : j = 0 <;> simp [hi, hj, Nat.add_assoc]

/-- The slice value '.slice A n c' holds the one-cell values xs, below block B. -/
def Reads (w : World) (B : Nat) (A : Option Addr) (n : Nat) (xs : List Value) : Prop :=
  xs.length = n ∧ (0 < n → ∃ ad, A = some ad ∧ ad.block < B ∧ ∀ j u, xs[j]? = some u → w.cell? (ad.add j) = some u)

section
variable {w w' : World} {B B' n : Nat} {A : Option Addr} {xs : List Value}
theorem Reads.none_ : Reads w B A 0 [] := ⟨rfl, fun h => absurd h (by omega)⟩
theorem Reads.at_ {k : Nat} (h : Reads w B A n xs) (hk : k < n) : ∃ ad u, A = some ad ∧ ad.block < B ∧ xs[k]? = some u ∧ w.cell? (ad.add k) = some u := by
  obtain ⟨ad, e, hb, hc⟩ := h.2 (by omega)
  have hl : k < xs.length := by have := h.1; omega
  exact ⟨ad, xs[k], e, hb, List.getElem?_eq_getElem hl, hc k _ (List.getElem?_eq_getElem hl)⟩
theorem Reads.keep (h : Reads w B A n xs) (hk : ∀ p : Addr, p.block < B → w'.cell? p = w.cell? p) : Reads w' B A n xs :=
  ⟨h.1, fun hn => by
    obtain ⟨ad, e, hb, hc⟩ := h.2 hn
    exact ⟨ad, e, hb, fun j u hu => (hk _ (by rw [block_of_add]; exact hb)).trans (hc j u hu)⟩⟩
theorem Reads.more (h : Reads w B A n xs) (hB : B ≤ B') : Reads w B' A n xs :=
  ⟨h.1, fun hn => by
    obtain ⟨ad, e, hb, hc⟩ := h.2 hn
    exact ⟨ad, e, by omega, hc⟩⟩
theorem Reads.below (h : Reads w B A n xs) (hb : Below B w w') : Reads w' B A n xs := h.keep fun _ hp => hb.cell hp
theorem Reads.drew (h : Reads w B A n xs) : Reads w.drew B A n xs := h
theorem Reads.drewN (h : Reads w B A n xs) (k : Nat) : Reads (w.drewN k) B A n xs := h
theorem Reads.alloc (h : Reads w B A n xs) (hB : B ≤ w.heap.size) (o : Obj) : Reads (w.alloc o) B A n xs := h.keep fun p hp => World.cell?_alloc_lt w o p (by omega)
theorem Reads.setCell (h : Reads w B A n xs) {p : Addr} (hB : B ≤ p.block) (u : Value) : Reads (w.setCell p u) B A n xs :=
  h.keep fun q hq => World.cell?_setCell_other w p q u (fun e => by subst e; omega)
theorem Reads.grown (h : Reads w B A n xs) {row : Option Nat} (hg : w.grownBy w' row) (hB : B ≤ w.heap.size) (hr : ∀ g, row = some g → B ≤ g) : Reads w' B A n xs :=
  h.keep fun p hp => World.cell?_of_block (hg.block p.block (by omega) (fun e => by have := hr _ e.symm; omega))
theorem Reads.of_own {base : Nat} {e : TypeId} {v : Value} (h : w.ownsRow base e 1 v n xs) : ∃ A c, v = .slice A n c ∧ Reads w w.heap.size A n xs := by
  rcases h.2 with ⟨rfl, rfl⟩ | ⟨g, cap, cur, rfl, hb, hg, hnc, hcm, hsz, htake⟩
  · exact ⟨none, 0, rfl, by simpa using h.1, fun hn => by omega⟩
  · refine ⟨_, _, rfl, by simpa using h.1, fun _ => ⟨_, rfl, (Array.getElem?_eq_some_iff.1 hg).1, fun j u hu => h.cells (g := g) rfl j u hu⟩⟩
theorem Reads.of_own_at {base : Nat} {e : TypeId} {c : Nat} (h : w.ownsRow base e 1 (.slice A n c) n xs) : Reads w w.heap.size A n xs := by
  obtain ⟨A', c', hv, hr⟩ := Reads.of_own h
  injection hv with h1 h2 h3
  subst h1
  exact hr
end

/-- Two calls, one behind the other: what lay before the first stands behind the second. -/
theorem below_after {w0 w1 w2 : World} (h1 : Below w0.heap.size w0 w1) (h2 : Below w1.heap.size w1 w2) : Below w0.heap.size w0 w2 := h1.trans (h2.mono h1.size)

/-- 'out = append(out, x)', x one cell: out a row of the call's own. -/
theorem wpList_append_one {P : Program} {ops : Array Oper} {rest : List Oper} {o : Oper} {a : Act} {W : World} {Q : Exit → Act → World → Prop} (hgd : o.guard = none) (sl x : Operand) (t : TypeId)
    (ho : o.op = .call { callee := .builtin .append, args := #[sl, x], argTypes := #[t, t] })
    (base : Nat) (e : TypeId) (i : TypeInfo) (z : Value) (bytes : Nat) (ht : P.underlying t = some (.slice e)) (hi : P.info? e = some i) (hz : i.zero = some z) (hsize : i.size = 1) (hby : i.bytes = bytes) (hzs : z.cells.size = 1)
    (w0 wr : World) (v : Value) (n : Nat) (xs : List Value) (hs : a.eval sl = v) (hown : wr.ownsRow base e 1 v n xs) (y : Value) (hx : a.eval x = .slice (some ⟨wr.heap.size, 0, none⟩) 1 1) (hW : W = wr.alloc (.cells #[y] e)) (h1 : y.oneCell' = true)
    (hbytes : (n + 1) * bytes ≤ 140737488355328) (hn : n + 1 ≤ maxLen) (hb : Below base w0 wr) (hbase : base ≤ wr.heap.size)
    (h : ∀ v' w', w'.ownsRow base e 1 v' (n + 1) (xs ++ [y]) → Below base w0 w' → wr.grownBy w' v.ownBlock → wpList P ops Q rest (a.put o.dst v') w') : wpList P ops Q (o :: rest) a W := by
  subst hW
  refine wpList_append_own _ hgd sl x t ho base e i z 1 bytes ht hi hz hsize hby hzs (by decide) v n xs hs (hown.alloc _) ⟨wr.heap.size, 0, none⟩ 1 1 [y] hx rfl ?_ ?_ hn hbytes (by simp; omega) ?_
  · intro j u hj
    match j, hj with
    | 0, hj => simp at hj; subst hj; simp [Addr.add]
  · intro u hu
    obtain rfl := List.mem_singleton.1 hu
    exact h1
  · intro v' w' h2 h3 _
    refine h v' w' h2 ?_ ?_
    · exact (hb.alloc hbase _).grown h3 (by simp; omega) (fun k hk => (hown.lt k hk).1)
    · exact ⟨h3.os, h3.tape, h3.output, Nat.le_trans (by simp) h3.size, fun k hk hne => (h3.block k (by simp; omega) hne).trans (Below.heap_alloc wr _ k hk)⟩

theorem grown_of_below {w w' : World} (h : Below w.heap.size w w') (row : Option Nat) : w.grownBy w' row := ⟨h.os, h.tape, h.output, h.size, fun i hi _ => h.block i hi⟩
theorem own_below {w w' : World} {base n size : Nat} {e : TypeId} {v : Value} {xs : List Value} (h : w.ownsRow base e size v n xs) (hb : Below w.heap.size w w') : w'.ownsRow base e size v n xs :=
  h.kept (grown_of_below hb none) (by cases hv : v.ownBlock <;> simp)
theorem grown_then {a b c : World} {row : Option Nat} (h : a.grownBy b row) (k : b.grownBy c row) : a.grownBy c row :=
  ⟨k.os.trans h.os, k.tape.trans h.tape, k.output.trans h.output, Nat.le_trans h.size k.size, fun i hi hne => (k.block i (Nat.lt_of_lt_of_le hi h.size) hne).trans (h.block i hi hne)⟩
theorem below_of_grown {B : Nat} {a b : World} {row : Option Nat} (h : a.grownBy b row) (hB : B ≤ a.heap.size) (hr : ∀ k, row = some k → B ≤ k) : Below B a b := (Below.refl _ _).grown h hB hr
/-- A slice that reads below B, behind a change of one row at or above B. -/
theorem Reads.row {w w' : World} {B n : Nat} {A : Option Addr} {xs : List Value} (h : Reads w B A n xs) {g : Nat} (hg : w.grownBy w' (some g)) (hB : B ≤ w.heap.size) (hr : B ≤ g) : Reads w' B A n xs :=
  h.grown hg hB (fun k hk => by injection hk with hk; omega)

theorem keep_cell {wr w : World} {p : Addr} {v : Value} (h : wr.cell? p = some v) (hp : p.block < wr.heap.size) (hb : Below wr.heap.size wr w) : w.cell? p = some v ∧ Below wr.heap.size wr w := ⟨(hb.cell hp).trans h, hb⟩

/-- Bytes, integers as cells. -/
def u8s (bs : List UInt8) : List Value := bs.map fun b => .int .u8 b.toNat
theorem u8_at {bs : List UInt8} {k : Nat} {u : Value} (h : (u8s bs)[k]? = some u) : ∃ b : UInt8, bs[k]? = some b ∧ u = .int .u8 b.toNat := by
  unfold u8s at h
  rw [List.getElem?_map] at h
  cases hs : bs[k]? with
  | none => simp [hs] at h
  | some s => simp [hs] at h; exact ⟨s, rfl, h.symm⟩
def i64s (zs : List Int) : List Value := zs.map (Value.int .i64)
theorem i64_at {zs : List Int} {k : Nat} {u : Value} (h : (i64s zs)[k]? = some u) : ∃ z, zs[k]? = some z ∧ u = .int .i64 z := by
  unfold i64s at h
  rw [List.getElem?_map] at h
  cases hs : zs[k]? with
  | none => simp [hs] at h
  | some s => simp [hs] at h; exact ⟨s, rfl, h.symm⟩

/-- Nothing but draws. -/
def Drew (w w' : World) : Prop := ∃ n : Nat, w' = w.drewN n
theorem Drew.refl (w : World) : Drew w w := ⟨0, rfl⟩
theorem Drew.of_eq {w w' : World} (h : w' = w) : Drew w w' := by subst h; exact Drew.refl _
theorem Drew.more {w w' : World} (h : Drew w w') (k : Nat) : Drew w (w'.drewN k) := by
  obtain ⟨n, rfl⟩ := h
  exact ⟨n + k, by rw [World.drewN_drewN]⟩
theorem Drew.trans {a b c : World} (h : Drew a b) (k : Drew b c) : Drew a c := by
  obtain ⟨n, rfl⟩ := k
  exact h.more n
theorem Drew.cell {w w' : World} (h : Drew w w') (p : Addr) : w'.cell? p = w.cell? p := by obtain ⟨n, rfl⟩ := h; rfl
theorem Drew.size {w w' : World} (h : Drew w w') : w'.heap.size = w.heap.size := by obtain ⟨n, rfl⟩ := h; rfl
theorem Drew.below {w w' : World} (h : Drew w w') (B : Nat) : Below B w w' := by
  obtain ⟨n, rfl⟩ := h
  exact ⟨rfl, rfl, rfl, Nat.le_refl _, fun _ _ => rfl⟩
theorem Reads.ofDrew {w w' : World} {B n : Nat} {A : Option Addr} {xs : List Value} (h : Reads w B A n xs) (hd : Drew w w') : Reads w' B A n xs := h.keep fun p _ => hd.cell p

theorem size_list' (s : ByteArray) : s.data.toList.length = s.size := by rw [Array.length_toList]; rfl
theorem ret_int {k : IntKind} {a b : Int} (h : a = b) : Ending.returned (.int k a) = .returned (.int k b) := by rw [h]
theorem ret_bool {a b : Bool} (h : a = b) : Ending.returned (.bool a) = .returned (.bool b) := by rw [h]
theorem ret_str {a b : ByteArray} (h : a = b) : Ending.returned (.string a) = .returned (.string b) := by rw [h]
theorem hide {p : Prop} (h : p) : Hid p := h
theorem unhide {p : Prop} (h : Hid p) : p := h
end Go.Proofs.Ytoiipedomgefaaa


/-
  CONTRACTS OF THE LAWS' HELPERS OVER []int: toIntS, eqIntS, markIntS, heldIntS; and the words for them.
-/

namespace Go.Proofs.Ytoiipedomgefaaa
set_option maxRecDepth 100000
open Go.RowKit

/-- Numbers of 64 bits. -/
def Small (zs : List Int) : Prop := ∀ z ∈ zs, -9223372036854775808 ≤ z ∧ z ≤ 9223372036854775807
theorem i64_get {zs : List Int} {k : Nat} {z : Int} (h : zs[k]? = some z) : (i64s zs)[k]? = some (.int .i64 z) := by
  unfold i64s; rw [List.getElem?_map, h]; rfl
theorem i64_length (zs : List Int) : (i64s zs).length = zs.length := by unfold i64s; rw [List.length_map]
theorem i64_inj {xs ys : List Int} (h : i64s xs = i64s ys) : xs = ys := by
  refine List.ext_getElem? fun i => ?_
  have e := congrArg (fun l => l[i]?) h
  simp only [i64s, List.getElem?_map] at e
  cases hx : xs[i]? <;> cases hy : ys[i]? <;> simp_all
theorem take_set_i {α : Type} {xs ys : List α} {k : Nat} {u : α} (h : xs.take k = ys.take k) (hu : ys[k]? = some u) (hl : k < xs.length) : (xs.set k u).take (k + 1) = ys.take (k + 1) := by
  rw [List.take_add_one, List.take_add_one, List.take_set_of_le (Nat.le_refl _), h]
  simp [hu, hl]
theorem below_set_i {B : Nat} {w w' : World} {e : TypeId} {size : Nat} {g cap n : Nat} {xs : List Value} (hb : Below B w w') (hown : w'.ownsRow B e size (.slice (some ⟨g, 0, none⟩) n cap) n xs) (j : Nat) (u : Value) : Below B w (w'.setCell ⟨g, j, none⟩ u) :=
  hb.setCell (hown.lt g rfl).1 _
theorem intInfo : (Try.prog.info? 3).map (fun i => (i.zero, i.size, i.bytes)) = some (some (.int .i64 0), 1, 8) := by kernel_rfl

/-- A row from block B on whose first n cells are these: it may be read and written, whatever its type and its room. -/
def Row (w : World) (B : Nat) (v : Value) (n : Nat) (xs : List Value) : Prop :=
  xs.length = n ∧ ((v = .slice none 0 0 ∧ n = 0) ∨ ∃ g cap cur e, v = .slice (some ⟨g, 0, none⟩) n cap ∧ B ≤ g ∧ w.heap[g]? = some (.cells cur e (0, 0)) ∧ (n ≤ cap ∧ n ≤ cur.size) ∧ cur.toList.take n = xs ∧ e ≠ 24)
section
variable {w w' : World} {B n : Nat} {v : Value} {xs : List Value}
theorem Row.of_own {e : TypeId} (h : w.ownsRow B e 1 v n xs) (he : e ≠ 24) : Row w B v n xs := by
  refine ⟨by simpa using h.1, ?_⟩
  rcases h.2 with h0 | ⟨g, cap, cur, hv, hb, hg, hnc, _, hs, ht⟩
  · exact .inl h0
  · exact .inr ⟨g, cap, cur, e, hv, hb, hg, ⟨hnc, by omega⟩, by simpa using ht, he⟩
theorem Row.lt (h : Row w B v n xs) : ∀ k, v.ownBlock = some k → B ≤ k ∧ k < w.heap.size := by
  intro k hk
  rcases h.2 with ⟨rfl, _⟩ | ⟨g, cap, cur, e, rfl, hb, hg, _⟩
  · simp [Value.ownBlock] at hk
  · simp [Value.ownBlock] at hk
    subst hk
    exact ⟨hb, (Array.getElem?_eq_some_iff.1 hg).1⟩
theorem Row.kept {row : Option Nat} (h : Row w B v n xs) (hg : w.grownBy w' row) (hne : v.ownBlock = none ∨ v.ownBlock ≠ row) : Row w' B v n xs := by
  refine ⟨h.1, ?_⟩
  rcases h.2 with hn | ⟨g, cap, cur, e, rfl, hb, hgg, rest⟩
  · exact .inl hn
  · refine .inr ⟨g, cap, cur, e, rfl, hb, ?_, rest⟩
    rw [hg.block g (Array.getElem?_eq_some_iff.1 hgg).1 (by simpa [Value.ownBlock] using hne)]
    exact hgg
theorem Row.cells {g : Nat} (h : Row w B v n xs) (hv : v.ownBlock = some g) (j : Nat) (hj : j < n) : w.cell? ⟨g, j, none⟩ = xs[j]? := by
  rcases h.2 with ⟨rfl, _⟩ | ⟨g', cap, cur, e, rfl, hb, hg, _, ht, _⟩
  · simp [Value.ownBlock] at hv
  · simp [Value.ownBlock] at hv
    subst hv
    rw [cell_of_row w g' j cur e (0, 0) hg, ← ht, List.getElem?_take, if_pos hj]
    simp
theorem Row.frozen {g : Nat} (h : Row w B v n xs) (hv : v.ownBlock = some g) (j : Nat) : w.frozen? ⟨g, j, none⟩ = false := by
  rcases h.2 with ⟨rfl, _⟩ | ⟨g', cap, cur, e, rfl, hb, hg, _⟩
  · simp [Value.ownBlock] at hv
  · simp [Value.ownBlock] at hv
    subst hv
    exact frozen_of_row w g' j cur e hg
theorem Row.stored {g : Nat} (h : Row w B v n xs) (hv : v.ownBlock = some g) (j : Nat) (u : Value) : Row (w.setCell ⟨g, j, none⟩ u) B v n (xs.set j u) ∧ w.grownBy (w.setCell ⟨g, j, none⟩ u) (some g) := by
  rcases h.2 with ⟨rfl, _⟩ | ⟨g', cap, cur, e, rfl, hb, hg, hs, ht, he⟩
  · simp [Value.ownBlock] at hv
  · simp [Value.ownBlock] at hv
    subst hv
    refine ⟨⟨by simpa using h.1, .inr ⟨g', cap, cur.setIfInBounds j u, e, rfl, hb, heap_setCell_same w g' j cur e u hg, ⟨hs.1, by simpa using hs.2⟩, ?_, he⟩⟩, ⟨rfl, rfl, rfl, by simp, fun k _ hk => Below.heap_setCell w _ u k (fun he => hk (by rw [he]))⟩⟩
    rw [Array.toList_setIfInBounds, List.take_set, ht]
theorem Row.reads {c : Nat} {A : Option Addr} (h : Row w B (.slice A n c) n xs) : Reads w w.heap.size A n xs := by
  rcases h.2 with ⟨hv, h0⟩ | ⟨g, cap, cur, e, hv, hb, hg, hs, ht, _⟩
  · exact ⟨h.1, fun hn => by omega⟩
  · injection hv with hA _ _
    subst hA
    refine ⟨h.1, fun _ => ⟨_, rfl, (Array.getElem?_eq_some_iff.1 hg).1, fun j u hu => ?_⟩⟩
    have hj : j < n := by have := (List.getElem?_eq_some_iff.1 hu).1; have := h.1; omega
    rw [show (⟨g, 0, none⟩ : Addr).add j = ⟨g, j, none⟩ by unfold Addr.add; split <;> simp_all, h.cells (g := g) rfl j hj]
    exact hu
end
theorem Row.cap {w : World} {B n c : Nat} {A : Option Addr} {xs : List Value} (h : Row w B (.slice A n c) n xs) : n ≤ c := by
  rcases h.2 with ⟨hv, h0⟩ | ⟨g, cap, cur, e, hv, _, _, hs, _⟩
  · omega
  · injection hv with _ _ hc
    rw [hc]; exact hs.1
/-- A row of the call's own that holds these numbers. -/
def Ints (w : World) (B : Nat) (v : Value) (zs : List Int) : Prop := Row w B v zs.length (i64s zs)
theorem Ints.of_own {w : World} {B n : Nat} {v : Value} {zs : List Int} (h : w.ownsRow B 3 1 v n (i64s zs)) : Ints w B v zs := by
  have hn : zs.length = n := by have := h.1; rw [i64_length] at this; omega
  unfold Ints
  rw [hn]
  exact Row.of_own h (by decide)
theorem Ints.slice {w : World} {B : Nat} {v : Value} {zs : List Int} (h : Ints w B v zs) : ∃ A c, v = .slice A zs.length c := by
  rcases h.2 with ⟨rfl, hz⟩ | ⟨g, cap, cur, e, rfl, _⟩
  · exact ⟨none, 0, by rw [hz]⟩
  · exact ⟨_, _, rfl⟩
theorem Ints.len {w : World} {B n c : Nat} {A : Option Addr} {zs : List Int} (h : Ints w B (.slice A n c) zs) : zs.length = n := by
  obtain ⟨A', c', hv⟩ := h.slice
  injection hv with _ h2; exact h2.symm
theorem Ints.cap {w : World} {B n c : Nat} {A : Option Addr} {zs : List Int} (h : Ints w B (.slice A n c) zs) : n ≤ c := by
  obtain rfl := h.len
  exact Row.cap h
theorem Ints.reads {w : World} {B n c : Nat} {A : Option Addr} {zs : List Int} (h : Ints w B (.slice A n c) zs) : Reads w w.heap.size A n (i64s zs) := by
  have hn : n = zs.length := by
    rcases h.2 with ⟨hv, hz⟩ | ⟨g, cap, cur, e, hv, _⟩
    · injection hv with _ h2; omega
    · injection hv
  subst hn
  exact Row.reads h
theorem Ints.below {w w' : World} {B : Nat} {v : Value} {zs : List Int} (h : Ints w B v zs) (hb : Below w.heap.size w w') : Ints w' B v zs := Row.kept h (grown_of_below hb none) (by cases hv : v.ownBlock <;> simp)
theorem Ints.kept {w w' : World} {B : Nat} {v : Value} {zs : List Int} (h : Ints w B v zs) {row : Option Nat} (hg : w.grownBy w' row) (hne : v.ownBlock = none ∨ v.ownBlock ≠ row) : Ints w' B v zs := Row.kept h hg hne
theorem Ints.low {w : World} {B B' : Nat} {v : Value} {zs : List Int} (h : Ints w B v zs) (hB : B' ≤ B) : Ints w B' v zs :=
  ⟨h.1, by
    rcases h.2 with h0 | ⟨g, cap, cur, e, hv, hb, hr⟩
    · exact .inl h0
    · exact .inr ⟨g, cap, cur, e, hv, Nat.le_trans hB hb, hr⟩⟩
theorem own0 (w : World) (B : Nat) (hB : B ≤ w.heap.size) : (w.alloc (.cells #[] 3)).ownsRow B 3 1 (.slice (some ⟨w.heap.size, 0, none⟩) 0 0) 0 [] :=
  World.ownsRow_made (base := B) (e := 3) (size := 1) w #[] 0 hB (by simp [maxLen]) rfl
theorem Ints.made0 (w : World) (B : Nat) (hB : B ≤ w.heap.size) : Ints (w.alloc (.cells #[] 3)) B (.slice (some ⟨w.heap.size, 0, none⟩) 0 0) [] := Ints.of_own (zs := []) (own0 w B hB)
theorem Ints.nil (w : World) (B : Nat) : Ints w B (.slice none 0 0) [] := ⟨rfl, .inl ⟨rfl, rfl⟩⟩
/-- Where the block lies. -/
def Since (B : Nat) (v : Value) : Prop := ∀ k, v.ownBlock = some k → B ≤ k
def Until (B : Nat) (v : Value) : Prop := ∀ k, v.ownBlock = some k → k < B
theorem Ints.since {w : World} {B : Nat} {v : Value} {zs : List Int} (h : Ints w B v zs) : Since B v := fun k hk => (Row.lt h k hk).1
theorem Ints.until_ {w : World} {B : Nat} {v : Value} {zs : List Int} (h : Ints w B v zs) : Until w.heap.size v := fun k hk => (Row.lt h k hk).2
theorem Since.mono {B B' : Nat} {v : Value} (h : Since B v) (hb : B' ≤ B) : Since B' v := fun k hk => Nat.le_trans hb (h k hk)
theorem Until.mono {B B' : Nat} {v : Value} (h : Until B v) (hb : B ≤ B') : Until B' v := fun k hk => Nat.lt_of_lt_of_le (h k hk) hb
theorem apart {B B' : Nat} {u v : Value} (hu : Until B u) (hv : Since B' v) (hb : B ≤ B') : u.ownBlock = none ∨ u.ownBlock ≠ v.ownBlock := by
  cases h : u.ownBlock with
  | none => exact .inl rfl
  | some k => exact .inr fun e => by have := hu k h; have := hv k e.symm; omega
theorem apart' {B B' : Nat} {u v : Value} (hu : Since B' u) (hv : Until B v) (hb : B ≤ B') : u.ownBlock = none ∨ u.ownBlock ≠ v.ownBlock := by
  cases h : u.ownBlock with
  | none => exact .inl rfl
  | some k => exact .inr fun e => by have := hv k e.symm; have := hu k h; omega
theorem below_row {B : Nat} {w0 w w' : World} {v : Value} (hb : Below B w0 w) (hg : w.grownBy w' v.ownBlock) (hB : B ≤ w.heap.size) (hs : Since B v) : Below B w0 w' := hb.grown hg hB hs

theorem made_zeros (n : Nat) : (madeCells (Value.int .i64 0).cells (n * 1)).toList = i64s (List.replicate n 0) := by
  rw [Nat.mul_one]
  unfold i64s
  rw [List.map_replicate]
  exact toList_madeCells_one _ _

def GivesI (w : World) (zs : List Int) (e : Ending) (w' : World) : Prop := ∃ A c, e = .returned (.slice A zs.length c) ∧ Ints w' w.heap.size (.slice A zs.length c) zs ∧ Below w.heap.size w w'
def GivesIB (w : World) (zs : List Int) (b : Bool) (e : Ending) (w' : World) : Prop := ∃ A c, e = .returned (.tuple #[.slice A zs.length c, .bool b]) ∧ Ints w' w.heap.size (.slice A zs.length c) zs ∧ Below w.heap.size w w'
theorem GivesI.mk {w w' : World} {v : Value} {zs : List Int} (h : Ints w' w.heap.size v zs) (hb : Below w.heap.size w w') : GivesI w zs (.returned v) w' := by
  obtain ⟨A, c, rfl⟩ := h.slice
  exact ⟨A, c, rfl, h, hb⟩
theorem GivesIB.mk {w w' : World} {v : Value} {zs : List Int} (b : Bool) (h : Ints w' w.heap.size v zs) (hb : Below w.heap.size w w') : GivesIB w zs b (.returned (.tuple #[v, .bool b])) w' := by
  obtain ⟨A, c, rfl⟩ := h.slice
  exact ⟨A, c, rfl, h, hb⟩

def GivesB (w : World) (b : Bool) (e : Ending) (w' : World) : Prop := e = .returned (.bool b) ∧ Below w.heap.size w w'
def GivesS (w : World) (s : ByteArray) (e : Ending) (w' : World) : Prop := e = .returned (.string s) ∧ Below w.heap.size w w'
def GivesN (w : World) (z : Int) (e : Ending) (w' : World) : Prop := e = .returned (.int .i64 z) ∧ Below w.heap.size w w'
/-- A list of integers as an argument: it reads below B, it is not long, its numbers have 64 bits. -/
structure Arg (w : World) (B : Nat) (A : Option Addr) (n c : Nat) (zs : List Int) : Prop where
  reads : Reads w B A n (i64s zs)
  under : B ≤ w.heap.size
  le : n ≤ 1048576
  cap : n ≤ c
  small : Small zs
  nil : A = none → c = 0
theorem Arg.len {w : World} {B n c : Nat} {A : Option Addr} {zs : List Int} (h : Arg w B A n c zs) : zs.length = n := by have := h.reads.1; rwa [i64_length] at this
theorem Arg.below {w w' : World} {B n c : Nat} {A : Option Addr} {zs : List Int} (h : Arg w B A n c zs) (hb : Below w.heap.size w w') : Arg w' B A n c zs :=
  ⟨h.reads.below (hb.mono h.under), Nat.le_trans h.under hb.size, h.le, h.cap, h.small, h.nil⟩
theorem Arg.more {w : World} {B B' n c : Nat} {A : Option Addr} {zs : List Int} (h : Arg w B A n c zs) (hB : B ≤ B') (hu : B' ≤ w.heap.size) : Arg w B' A n c zs := ⟨h.reads.more hB, hu, h.le, h.cap, h.small, h.nil⟩
theorem Ints.arg {w : World} {B n c : Nat} {A : Option Addr} {zs : List Int} (h : Ints w B (.slice A n c) zs) (hn : n ≤ 1048576) (hc : n ≤ c) (hz : Small zs) : Arg w w.heap.size A n c zs := ⟨h.reads, Nat.le_refl _, hn, hc, hz, fun hA => by
  rcases h.2 with ⟨hv, _⟩ | ⟨g, cap, cur, e, hv, _⟩
  · injection hv
  · injection hv with h1; rw [h1] at hA; cases hA⟩
theorem small_of_wf {zs : List Int} (h : ∀ z ∈ zs, (Lit.int .i64 z).wf = true) : Small zs := fun z hz => by
  simpa [Lit.wf, IntKind.min, IntKind.max, IntKind.signed, IntKind.bits] using h z hz
theorem cellsInt : Try.prog.cellsOf 3 = 1 := by kernel_rfl

set_option maxHeartbeats 400000 in
/-- toIntS: a row of the call's own with the same numbers. -/
theorem toi_any (A : Option Addr) (n c B : Nat) (zs : List Int) (w : World) (hr : Reads w B A n (i64s zs)) (hB : B ≤ w.heap.size) (hn : n ≤ 1099511627776) :
    Calls Try.prog 25 #[.slice A n c] w fun e w' => e = .returned (.slice (some ⟨w.heap.size, 0, none⟩) n n) ∧ Ints w' w.heap.size (.slice (some ⟨w.heap.size, 0, none⟩) n n) zs ∧ Below w.heap.size w w' := by
  obtain ⟨i0, hi, hz0, hz1, hz2⟩ := info_parts intInfo
  go_enter Try.func25, Try.ntmps25
  go_wp2_with (first
    | (at_make; refine wpList_make_full _ rfl (.tmp 6) (.tmp 6) 24 rfl w.heap.size 3 i0 (.int .i64 0) 1 Try.underlying24 hi hz0 hz1 _ _ _ _ n rfl rfl (by first | rfl | omega) (by first | rfl | omega) (by rw [hz2]; omega) (by unfold maxLen; omega) (Nat.le_refl _) ?_; intro w1 hown hg))
  have hb1 : Below w.heap.size w w1 := (Below.refl _ _).grown hg (Nat.le_refl _) (by simp)
  clear hg
  go_loopw [4] (fun i wr => ∃ (k : Nat) (xs : List Value), k ≤ n ∧ i = .int .i64 k ∧ Below w.heap.size w wr ∧ wr.ownsRow w.heap.size 3 1 (.slice (some ⟨w.heap.size, 0, none⟩) n n) n xs ∧ Hid (xs.take k = (i64s zs).take k)) (fun i _ => n - (intOf i).toNat)
  case atStart => exact ⟨0, _, Nat.zero_le _, rfl, hb1, hown, by exact rfl⟩
  case round =>
    obtain ⟨k, xs, hk, rfl, hb, hown', hx⟩ := hrel
    clear hown hb1
    by_cases hlt : k < n
    · obtain ⟨ad, u, rfl, had, hu, hc⟩ := ((hr.more hB).below hb).at_ hlt
      obtain ⟨s, hs, rfl⟩ := i64_at hu
      have hl : xs.length = n := by simpa using hown'.1
      obtain ⟨old, hold⟩ : ∃ old, wr.cell? ⟨w.heap.size, k, none⟩ = some old := ⟨_, by rw [hown'.cellAt k (by omega)]; exact List.getElem?_eq_getElem (by omega)⟩
      have hfz := hown'.frozenAt k
      have hst := hide (take_set_i (unhide hx) hu (by omega))
      have ho2 := (hown'.stored k (.int .i64 s)).1
      have hb2 := below_set_i hb hown' k (.int .i64 s)
      have hkn : k + 1 ≤ n := by omega
      clear hx hu hs hown' hb hl
      go_wp2
      go_roundw
      case rel => exact ⟨k + 1, _, hkn, by go_num, hb2, ho2, hst⟩
      case measure => simp [intOf]; omega
    · obtain rfl : n = k := by omega
      have hlx : xs.length = n := by simpa using hown'.1
      have hlr : zs.length = n := by have := hr.1; rwa [i64_length] at this
      have : xs = i64s zs := by
        have h := unhide hx
        rwa [List.take_of_length_le (by omega), List.take_of_length_le (by rw [i64_length]; omega)] at h
      subst this
      have hI : Ints wr w.heap.size (.slice (some ⟨w.heap.size, 0, none⟩) n n) zs := Ints.of_own hown'
      clear hx hlx hlr hown'
      go_wp2
      go_ret
      exact ⟨rfl, hI, hb⟩
set_option maxHeartbeats 400000 in
/-- eqIntS: equal lists. -/
theorem eqi_any (A A' : Option Addr) (n c n' c' B B' : Nat) (zs : List Int) (w : World) (hr : Reads w B A n (i64s zs)) (hr' : Reads w B' A' n' (i64s zs)) (hn : n ≤ 1099511627776) :
    Calls Try.prog 26 #[.slice A n c, .slice A' n' c'] w fun e w' => e = .returned (.bool true) ∧ Drew w w' := by
  have e1 : zs.length = n := by have := hr.1; rwa [i64_length] at this
  have e2 : zs.length = n' := by have := hr'.1; rwa [i64_length] at this
  obtain rfl : n = n' := by omega
  clear e1 e2
  go_enter Try.func26, Try.ntmps26
  go_wp2
  go_loopw [5] (fun i wr => ∃ k : Nat, k ≤ n ∧ i = .int .i64 k ∧ Drew w wr) (fun i _ => n - (intOf i).toNat)
  case atStart => exact ⟨0, Nat.zero_le _, rfl, Drew.refl _⟩
  case round =>
    obtain ⟨k, hk, rfl, hd⟩ := hrel
    by_cases hlt : k < n
    · obtain ⟨ad, u, rfl, _, hx, hc⟩ := (hr.ofDrew hd).at_ hlt
      obtain ⟨ad', u', rfl, _, hx', hc'⟩ := (hr'.ofDrew hd).at_ hlt
      obtain ⟨s, hs, rfl⟩ := i64_at hx
      obtain ⟨s', hs', rfl⟩ := i64_at hx'
      obtain rfl : s = s' := by rw [hs] at hs'; exact Option.some.inj hs'
      clear hx hx' hs hs' hr hr'
      have HD := hide hd
      clear hd
      go_wp2
      go_quiet (fail)
      go_wp2
      go_roundw
      case rel => exact ⟨k + 1, by omega, by go_num, (unhide HD).more _⟩
      case measure => simp [intOf]; omega
    · go_wp2
      go_ret
      exact ⟨rfl, hd⟩
/-- The marks from k on. -/
def marksI (k n : Nat) : List Int := (List.range n).map fun j => ((k + j : Nat) : Int)
theorem marksI_length (k n : Nat) : (marksI k n).length = n := by simp [marksI]
theorem marksI_at {k n j : Nat} (h : j < n) : (marksI k n)[j]? = some ((k + j : Nat) : Int) := by simp [marksI, h]
end Go.Proofs.Ytoiipedomgefaaa
