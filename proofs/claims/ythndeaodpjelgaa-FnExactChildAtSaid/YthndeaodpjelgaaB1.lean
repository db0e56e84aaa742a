/-
  Words and contracts that the laws lean on, bundled: PermM, PermB, PermF, SymM, PermP, PermL, SumM, SumL, IvM.
-/
import Derived.Below

/-
  PLAIN: permutations as lists of integers. Nothing here speaks of the program.
-/

namespace Go.Proofs.Ythndeaodpjelgaa
set_option maxRecDepth 100000

/-- Each of the numbers 1 to n once. -/
def IsP (l : List Int) : Prop := l.length ≤ 8 ∧ (∀ x ∈ l, 1 ≤ x ∧ x ≤ (l.length : Int)) ∧ l.Nodup
instance (l : List Int) : Decidable (IsP l) := inferInstanceAs (Decidable (_ ∧ _ ∧ _))
def isP (l : List Int) : Bool := decide (IsP l)
theorem isP_true {l : List Int} : isP l = true ↔ IsP l := by unfold isP; simp
theorem isP_false {l : List Int} : isP l = false ↔ ¬ IsP l := by unfold isP; simp

theorem sub_erase {a : Int} {l m : List Int} (hnd : (a :: l).Nodup) (h : ∀ x ∈ a :: l, x ∈ m) : ∀ x ∈ l, x ∈ m.erase a := fun x hx => by
  have hne : x ≠ a := fun e => by subst e; exact (List.nodup_cons.1 hnd).1 hx
  exact (List.mem_erase_of_ne hne).2 (h x (by simp [hx]))
theorem pigeon_le : ∀ {l m : List Int}, l.Nodup → (∀ x ∈ l, x ∈ m) → l.length ≤ m.length
  | [], _, _, _ => Nat.zero_le _
  | a :: l, m, hnd, h => by
    have ha := h a (by simp)
    have h1 := pigeon_le (List.nodup_cons.1 hnd).2 (sub_erase hnd h)
    have h2 := List.length_pos_of_mem ha
    rw [List.length_erase_of_mem ha] at h1
    rw [List.length_cons]; omega
theorem pigeon_nodup : ∀ {l m : List Int}, l.Nodup → (∀ x ∈ l, x ∈ m) → m.length ≤ l.length → m.Nodup
  | [], m, _, _, hl => by
    obtain rfl := List.eq_nil_of_length_eq_zero (by simpa using hl)
    exact List.nodup_nil
  | a :: l, m, hnd, h, hl => by
    have ha := h a (by simp)
    have hm := List.length_pos_of_mem ha
    have hle : (m.erase a).length = m.length - 1 := List.length_erase_of_mem ha
    have hs := sub_erase hnd h
    have h1 := pigeon_nodup (List.nodup_cons.1 hnd).2 hs (by rw [hle]; rw [List.length_cons] at hl; omega)
    have h2 : a ∉ m.erase a := fun hin => by
      have := pigeon_le hnd (m := m.erase a) (fun x hx => by
        rcases List.mem_cons.1 hx with rfl | hx
        · exact hin
        · exact hs x hx)
      rw [hle] at this
      rw [List.length_cons] at hl this
      omega
    have hp := List.perm_cons_erase ha
    exact hp.nodup_iff.2 (List.nodup_cons.2 ⟨h2, h1⟩)

/-- The numbers 1 to n. -/
def upTo (n : Nat) : List Int := (List.range n).map fun j : Nat => (j : Int) + 1
theorem upTo_length (n : Nat) : (upTo n).length = n := by simp [upTo]
theorem mem_upTo {n : Nat} {x : Int} : x ∈ upTo n ↔ 1 ≤ x ∧ x ≤ n := by
  unfold upTo
  rw [List.mem_map]
  constructor
  · rintro ⟨j, hj, rfl⟩
    have := List.mem_range.1 hj
    omega
  · rintro ⟨h1, h2⟩
    exact ⟨(x - 1).toNat, List.mem_range.2 (by omega), by omega⟩
theorem upTo_nodup (n : Nat) : (upTo n).Nodup := by
  unfold upTo
  rw [List.nodup_iff_pairwise_ne, List.pairwise_map]
  exact List.nodup_range.imp fun h e => h (by omega)
/-- A list within 1 to n of length n: once each exactly if each is there. -/
theorem nodup_iff_all {l : List Int} (h : ∀ x ∈ l, 1 ≤ x ∧ x ≤ (l.length : Int)) : l.Nodup ↔ ∀ j : Nat, j < l.length → (j : Int) + 1 ∈ l := by
  constructor
  · intro hnd j hj
    by_cases hin : (j : Int) + 1 ∈ l
    · exact hin
    · have := pigeon_le (l := ((j : Int) + 1) :: l) (m := upTo l.length) (List.nodup_cons.2 ⟨hin, hnd⟩) (fun x hx => by
        rcases List.mem_cons.1 hx with rfl | hx
        · exact mem_upTo.2 ⟨by omega, by omega⟩
        · exact mem_upTo.2 (h x hx))
      rw [upTo_length, List.length_cons] at this
      omega
  · intro hall
    refine pigeon_nodup (upTo_nodup l.length) (fun x hx => ?_) (by rw [upTo_length]; exact Nat.le_refl _)
    obtain ⟨h1, h2⟩ := mem_upTo.1 hx
    have := hall (x - 1).toNat (by omega)
    rwa [show (((x - 1).toNat : Nat) : Int) + 1 = x by omega] at this

/-- The eight cells that impl.IsPerm fills. -/
def fnd (l : List Int) : List Int := (List.range 8).map fun j : Nat => if (j : Int) + 1 ∈ l then (j : Int) + 1 else 0
def ascL (n : Nat) : List Int := (List.range 8).map fun j : Nat => if j < n then (j : Int) + 1 else 0
theorem fnd_length (l : List Int) : (fnd l).length = 8 := by simp [fnd]
theorem ascL_length (n : Nat) : (ascL n).length = 8 := by simp [ascL]
theorem fnd_nil : fnd [] = [0, 0, 0, 0, 0, 0, 0, 0] := by decide
theorem ascL_zero : ascL 0 = [0, 0, 0, 0, 0, 0, 0, 0] := by decide
theorem ascL_step (k : Nat) : (ascL k).set k ((k : Int) + 1) = ascL (k + 1) := by
  refine List.ext_getElem (by rw [List.length_set, ascL_length, ascL_length]) fun i h1 h2 => ?_
  simp only [ascL, List.getElem_set, List.getElem_map, List.getElem_range]
  by_cases hk : k = i
  · subst hk; simp
  · simp only [hk, if_false]
    by_cases hi : i < k
    · rw [if_pos hi, if_pos (by omega)]
    · rw [if_neg hi, if_neg (by omega)]
theorem fnd_step {l : List Int} {v : Int} (h1 : 1 ≤ v) (h2 : v ≤ 8) : (fnd l).set (v - 1).toNat v = fnd (l ++ [v]) := by
  refine List.ext_getElem (by rw [List.length_set, fnd_length, fnd_length]) fun i hi1 hi2 => ?_
  simp only [fnd, List.getElem_set, List.getElem_map, List.getElem_range, List.mem_append, List.mem_singleton]
  by_cases hk : (v - 1).toNat = i
  · have e : (i : Int) + 1 = v := by omega
    rw [if_pos hk, if_pos (.inr e)]
    exact e.symm
  · have hne : ¬ ((i : Int) + 1 = v) := by omega
    rw [if_neg hk]
    simp only [hne, or_false]
theorem fnd_asc {l : List Int} (hl : l.length ≤ 8) (h : ∀ x ∈ l, 1 ≤ x ∧ x ≤ (l.length : Int)) : (fnd l == ascL l.length) = isP l := by
  rw [Bool.eq_iff_iff, beq_iff_eq, isP_true]
  unfold IsP
  rw [nodup_iff_all h]
  constructor
  · intro e
    refine ⟨hl, h, fun j hj => ?_⟩
    have := congrArg (fun m => m[j]?) e
    have hj8 : j < 8 := by omega
    simp only [fnd, ascL, List.getElem?_map, List.getElem?_range hj8, Option.map_some, if_pos hj] at this
    by_cases hin : (j : Int) + 1 ∈ l
    · exact hin
    · rw [if_neg hin] at this
      injection this with this
      omega
  · rintro ⟨_, _, hall⟩
    unfold fnd ascL
    refine List.map_congr_left fun j hj => ?_
    by_cases hlt : j < l.length
    · rw [if_pos (hall j hlt), if_pos hlt]
    · rw [if_neg hlt, if_neg]
      intro hin
      have := h _ hin
      omega

/-- What spec.IsPerm has seen of the first k numbers. -/
def Seen (l : List Int) (k : Nat) : Prop := (∀ x ∈ l.take k, 1 ≤ x ∧ x ≤ (l.length : Int)) ∧ (l.take k).Nodup
theorem Seen.zero (l : List Int) : Seen l 0 := ⟨by simp, by simp⟩
theorem Seen.step {l : List Int} {k : Nat} {z : Int} (h : Seen l k) (hz : l[k]? = some z) (h1 : 1 ≤ z ∧ z ≤ (l.length : Int)) (h2 : z ∉ l.take k) : Seen l (k + 1) := by
  unfold Seen
  rw [List.take_add_one, hz]
  simp only [Option.toList_some, List.mem_append, List.mem_singleton]
  refine ⟨fun x hx => ?_, ?_⟩
  · rcases hx with hx | rfl
    · exact h.1 x hx
    · exact h1
  · rw [List.nodup_append]
    refine ⟨h.2, by simp, fun a ha b hb e => ?_⟩
    rw [List.mem_singleton] at hb
    subst hb; subst e
    exact h2 ha
theorem Seen.isP {l : List Int} (h : Seen l l.length) (hl : l.length ≤ 8) : isP l = true := by
  unfold Seen at h
  rw [List.take_length] at h
  exact isP_true.2 ⟨hl, h⟩
theorem isP_no_range {l : List Int} {k : Nat} {z : Int} (hz : l[k]? = some z) (h : ¬ (1 ≤ z ∧ z ≤ (l.length : Int))) : isP l = false :=
  isP_false.2 fun hp => h (hp.2.1 z (List.mem_of_getElem? hz))
theorem isP_no_twice {l : List Int} {k : Nat} {z : Int} (hz : l[k]? = some z) (h : z ∈ l.take k) : isP l = false :=
  isP_false.2 fun hp => by
    have hnd : (l.take (k + 1)).Nodup := hp.2.2.sublist (List.take_sublist _ _)
    rw [List.take_add_one, hz] at hnd
    simp only [Option.toList_some] at hnd
    exact (List.nodup_append.1 hnd).2.2 z h z (by simp) rfl
theorem isP_long {l : List Int} (h : 8 < l.length) : isP l = false := isP_false.2 fun hp => by have := hp.1; omega
theorem take_snoc_i {l : List Int} {k : Nat} {z : Int} (h : l[k]? = some z) : l.take (k + 1) = l.take k ++ [z] := by rw [List.take_add_one, h]; rfl
end Go.Proofs.Ythndeaodpjelgaa


/-
  PLAIN: the order of lists. Nothing here speaks of the program.
-/

namespace Go.Proofs.Ythndeaodpjelgaa
set_option maxRecDepth 100000

/-- At the first place where they differ the first is less. -/
def lexL : List Int → List Int → Bool
  | x :: xs, y :: ys => if x = y then lexL xs ys else decide (x < y)
  | _, _ => false
theorem lexL_same : ∀ p : List Int, lexL p p = false
  | [] => rfl
  | x :: xs => by rw [lexL, if_pos rfl]; exact lexL_same xs
theorem lexL_at : ∀ {p q : List Int} {k : Nat} {x y : Int}, p.take k = q.take k → p[k]? = some x → q[k]? = some y → x ≠ y → lexL p q = decide (x < y)
  | a :: p, b :: q, 0, x, y, _, hx, hy, hne => by
    simp at hx hy
    subst hx; subst hy
    rw [lexL, if_neg hne]
  | a :: p, b :: q, k + 1, x, y, h, hx, hy, hne => by
    simp at h
    obtain ⟨rfl, h⟩ := h
    rw [lexL, if_pos rfl]
    exact lexL_at h (by simpa using hx) (by simpa using hy) hne
  | [], _, k, _, _, _, hx, _, _ => by simp at hx
  | _ :: _, [], k, _, _, _, _, hy, _ => by simp at hy
theorem take_same_step {p q : List Int} {k : Nat} {x : Int} (h : p.take k = q.take k) (hx : p[k]? = some x) (hy : q[k]? = some x) : p.take (k + 1) = q.take (k + 1) := by
  rw [List.take_add_one, List.take_add_one, h, hx, hy]
theorem lexL_end {p q : List Int} {n : Nat} (h : p.take n = q.take n) (hp : p.length = n) (hq : q.length = n) : lexL p q = false := by
  rw [List.take_of_length_le (by omega), List.take_of_length_le (by omega)] at h
  rw [h]; exact lexL_same q
def befL (p q : List Int) : Bool := if p.length = q.length then lexL p q else decide (p.length < q.length)
theorem befL_eq {p q : List Int} (h : p.length = q.length) : befL p q = lexL p q := by unfold befL; rw [if_pos h]
theorem befL_ne {p q : List Int} (h : p.length ≠ q.length) : befL p q = decide (p.length < q.length) := by unfold befL; rw [if_neg h]
def bef (p q : List Int) : Bool := isP p && isP q && befL p q
theorem bef_no1 {p q : List Int} (h : isP p = false) : bef p q = false := by simp [bef, h]
theorem bef_no2 {p q : List Int} (h : isP q = false) : bef p q = false := by simp [bef, h]
theorem bef_yes {p q : List Int} (h : isP p = true) (h' : isP q = true) : bef p q = befL p q := by simp [bef, h, h']
end Go.Proofs.Ythndeaodpjelgaa


/-
  PLAIN: the lists that the functions of chapter 2 give. Nothing here speaks of the program.
-/

namespace Go.Proofs.Ythndeaodpjelgaa
set_option maxRecDepth 100000

/-- Below b, or not: the value at a place, 0 where there is none. -/
def at0 (l : List Int) (k : Nat) : Int := l.getD k 0
theorem at0_of {l : List Int} {k : Nat} {z : Int} (h : l[k]? = some z) : at0 l k = z := by unfold at0; rw [List.getD_eq_getElem?_getD, h]; rfl
theorem at0_some {l : List Int} {k : Nat} (h : k < l.length) : l[k]? = some (at0 l k) := by
  unfold at0
  rw [List.getD_eq_getElem?_getD, List.getElem?_eq_getElem h]; rfl

/-- The inverse, filled in k rounds. -/
def invFill (l : List Int) : Nat → List Int
  | 0 => List.replicate l.length 0
  | k + 1 => (invFill l k).set ((at0 l k).toNat - 1) ((k : Int) + 1)
theorem invFill_length (l : List Int) : ∀ k, (invFill l k).length = l.length
  | 0 => by simp [invFill]
  | k + 1 => by rw [invFill, List.length_set, invFill_length l k]
theorem invFill_step {l : List Int} {k : Nat} {z : Int} (h : l[k]? = some z) : (invFill l k).set (z.toNat - 1) ((k : Int) + 1) = invFill l (k + 1) := by rw [invFill, at0_of h]
def invR (l : List Int) : List Int := if isP l then invFill l l.length else []
theorem invR_yes {l : List Int} (h : isP l = true) : invR l = invFill l l.length := by unfold invR; rw [if_pos h]
theorem invR_no {l : List Int} (h : isP l = false) : invR l = [] := by unfold invR; rw [if_neg (by simp [h])]
theorem isP_le {l : List Int} (h : isP l = true) : l.length ≤ 8 := (isP_true.1 h).1
theorem isP_range {l : List Int} (h : isP l = true) {k : Nat} {z : Int} (hz : l[k]? = some z) : 1 ≤ z ∧ z ≤ (l.length : Int) := (isP_true.1 h).2.1 z (List.mem_of_getElem? hz)
theorem invR_le (l : List Int) : (invR l).length ≤ 8 := by
  cases h : isP l with
  | true => rw [invR_yes h, invFill_length]; exact isP_le h
  | false => rw [invR_no h]; simp

/-- The composition, its first k values. -/
def compL (p q : List Int) (k : Nat) : List Int := (List.range k).map fun j => at0 p ((at0 q j).toNat - 1)
theorem compL_length (p q : List Int) (k : Nat) : (compL p q k).length = k := by simp [compL]
theorem compL_zero (p q : List Int) : compL p q 0 = [] := rfl
theorem compL_step {p q : List Int} {k : Nat} {z y : Int} (hz : q[k]? = some z) (hy : p[z.toNat - 1]? = some y) : compL p q (k + 1) = compL p q k ++ [y] := by
  unfold compL
  rw [List.range_succ, List.map_append, List.map_singleton, at0_of hz, at0_of hy]
theorem compL_at {p q : List Int} {k n : Nat} {z y : Int} (h : k < n) (hz : q[k]? = some z) (hy : p[z.toNat - 1]? = some y) : (compL p q n)[k]? = some y := by
  unfold compL
  rw [List.getElem?_map, List.getElem?_range h, Option.map_some, at0_of hz, at0_of hy]
def compOK (p q : List Int) : Bool := isP p && isP q && decide (p.length = q.length)
def compR (p q : List Int) : List Int := if compOK p q then compL p q q.length else []
theorem compR_yes {p q : List Int} (h : compOK p q = true) : compR p q = compL p q q.length := by unfold compR; rw [if_pos h]
theorem compR_no {p q : List Int} (h : compOK p q = false) : compR p q = [] := by unfold compR; rw [if_neg (by simp [h])]
theorem compOK_yes {p q : List Int} (h1 : isP p = true) (h2 : isP q = true) (h3 : p.length = q.length) : compOK p q = true := by simp [compOK, h1, h2, h3]
theorem compOK_no1 {p q : List Int} (h : isP p = false) : compOK p q = false := by simp [compOK, h]
theorem compOK_no2 {p q : List Int} (h : isP q = false) : compOK p q = false := by simp [compOK, h]
theorem compOK_no3 {p q : List Int} (h : p.length ≠ q.length) : compOK p q = false := by simp [compOK, h]
theorem compR_le (p q : List Int) : (compR p q).length ≤ 8 := by
  cases h : compOK p q with
  | true =>
    rw [compR_yes h, compL_length]
    simp only [compOK, Bool.and_eq_true, decide_eq_true_eq] at h
    exact isP_le h.1.2
  | false => rw [compR_no h]; simp

/-- The identity. -/
def idR (n : Int) : List Int := if 1 ≤ n ∧ n ≤ 8 then upTo n.toNat else []
theorem idR_yes {n : Int} (h1 : 1 ≤ n) (h2 : n ≤ 8) : idR n = upTo n.toNat := by unfold idR; rw [if_pos ⟨h1, h2⟩]
theorem idR_no {n : Int} (h : ¬ (1 ≤ n ∧ n ≤ 8)) : idR n = [] := by unfold idR; rw [if_neg h]
theorem idR_le (n : Int) : (idR n).length ≤ 8 := by
  unfold idR
  by_cases h : 1 ≤ n ∧ n ≤ 8
  · rw [if_pos h, upTo_length]; omega
  · rw [if_neg h]; simp
theorem upTo_step (k : Nat) : upTo (k + 1) = upTo k ++ [(k : Int) + 1] := by unfold upTo; rw [List.range_succ, List.map_append, List.map_singleton]
theorem upTo_asc {n : Nat} (h : n ≤ 8) : (ascL n).take n = upTo n := by
  refine List.ext_getElem (by rw [List.length_take, ascL_length, upTo_length]; omega) fun i h1 h2 => ?_
  rw [upTo_length] at h2
  simp only [ascL, upTo, List.getElem_take, List.getElem_map, List.getElem_range, h2, if_true]
end Go.Proofs.Ythndeaodpjelgaa


/-
  PLAIN: lists of lists in order, each once; the symmetries of a permutation. Nothing here speaks of the program.
-/

namespace Go.Proofs.Ythndeaodpjelgaa
set_option maxRecDepth 100000

/-! the order -/
theorem lexL_trans : ∀ {p q r : List Int}, lexL p q = true → lexL q r = true → lexL p r = true
  | [], _, _, h, _ => by simp [lexL] at h
  | _ :: _, [], _, h, _ => by simp [lexL] at h
  | _ :: _, _ :: _, [], _, h => by simp [lexL] at h
  | x :: p, y :: q, z :: r, h1, h2 => by
    rw [lexL] at h1 h2 ⊢
    by_cases e1 : x = y
    · subst e1
      rw [if_pos rfl] at h1
      by_cases e2 : x = z
      · subst e2
        rw [if_pos rfl] at h2 ⊢
        exact lexL_trans h1 h2
      · rw [if_neg e2] at h2 ⊢
        exact h2
    · rw [if_neg e1] at h1
      by_cases e2 : y = z
      · subst e2
        rw [if_neg e1]
        exact h1
      · rw [if_neg e2] at h2
        simp only [decide_eq_true_eq] at h1 h2
        rw [if_neg (by omega)]
        simp only [decide_eq_true_eq]
        omega
theorem lexL_total : ∀ {p q : List Int}, p.length = q.length → lexL p q = false → lexL q p = false → p = q
  | [], [], _, _, _ => rfl
  | [], _ :: _, h, _, _ => by simp at h
  | _ :: _, [], h, _, _ => by simp at h
  | x :: p, y :: q, h, h1, h2 => by
    rw [lexL] at h1 h2
    by_cases e : x = y
    · subst e
      rw [if_pos rfl] at h1 h2
      rw [lexL_total (by simpa using h) h1 h2]
    · rw [if_neg e] at h1
      rw [if_neg (fun h => e h.symm)] at h2
      simp only [decide_eq_false_iff_not] at h1 h2
      omega
theorem befL_irrefl (p : List Int) : befL p p = false := by rw [befL_eq rfl]; exact lexL_same p
theorem befL_trans {p q r : List Int} (h1 : befL p q = true) (h2 : befL q r = true) : befL p r = true := by
  unfold befL at h1 h2 ⊢
  by_cases e1 : p.length = q.length
  · rw [if_pos e1] at h1
    by_cases e2 : q.length = r.length
    · rw [if_pos e2] at h2
      rw [if_pos (by omega)]
      exact lexL_trans h1 h2
    · rw [if_neg e2] at h2
      rw [if_neg (by omega)]
      simp only [decide_eq_true_eq] at h2 ⊢
      omega
  · rw [if_neg e1] at h1
    simp only [decide_eq_true_eq] at h1
    by_cases e2 : q.length = r.length
    · rw [if_neg (by omega)]
      simp only [decide_eq_true_eq]
      omega
    · rw [if_neg e2] at h2
      simp only [decide_eq_true_eq] at h2
      rw [if_neg (by omega)]
      simp only [decide_eq_true_eq]
      omega
theorem befL_total {p q : List Int} (h1 : befL p q = false) (h2 : befL q p = false) : p = q := by
  unfold befL at h1 h2
  by_cases e : p.length = q.length
  · rw [if_pos e] at h1
    rw [if_pos e.symm] at h2
    exact lexL_total e h1 h2
  · rw [if_neg e] at h1
    rw [if_neg (fun h => e h.symm)] at h2
    simp only [decide_eq_false_iff_not] at h1 h2
    omega
theorem befL_asymm {p q : List Int} (h : befL p q = true) : befL q p = false := by
  cases h2 : befL q p with
  | false => rfl
  | true => have := befL_trans h h2; rw [befL_irrefl] at this; cases this
theorem befL_of_ne {p q : List Int} (h : befL q p = false) (hne : p ≠ q) : befL p q = true := by
  cases h2 : befL p q with
  | true => rfl
  | false => exact absurd (befL_total h2 h) hne
/-- p is not behind q, q before r. -/
theorem befL_le_lt {p q r : List Int} (h1 : befL q p = false) (h2 : befL q r = true) : befL p r = true := by
  by_cases e : p = q
  · subst e; exact h2
  · exact befL_trans (befL_of_ne h1 e) h2

/-! in order, each once -/
def Asc (l : List (List Int)) : Prop := l.Pairwise fun a b => befL a b = true
theorem asc_unique : ∀ {a b : List (List Int)}, Asc a → Asc b → (∀ x, x ∈ a ↔ x ∈ b) → a = b
  | [], [], _, _, _ => rfl
  | [], y :: b, _, _, h => by have := (h y).2 (by simp); simp at this
  | x :: a, [], _, _, h => by have := (h x).1 (by simp); simp at this
  | x :: a, y :: b, ha, hb, h => by
    have ha' := List.pairwise_cons.1 ha
    have hb' := List.pairwise_cons.1 hb
    have e : x = y := by
      rcases List.mem_cons.1 ((h x).1 (by simp)) with e | hx
      · exact e
      · rcases List.mem_cons.1 ((h y).2 (by simp)) with e | hy
        · exact e.symm
        · have h1 := hb'.1 x hx
          have h2 := ha'.1 y hy
          rw [befL_asymm h1] at h2
          cases h2
    subst e
    have : a = b := asc_unique ha'.2 hb'.2 fun z => by
      have hz := h z
      constructor
      · intro hin
        rcases List.mem_cons.1 (hz.1 (by simp [hin])) with e | h2
        · subst e
          have := ha'.1 z hin
          rw [befL_irrefl] at this
          cases this
        · exact h2
      · intro hin
        rcases List.mem_cons.1 (hz.2 (by simp [hin])) with e | h2
        · subst e
          have := hb'.1 z hin
          rw [befL_irrefl] at this
          cases this
        · exact h2
    rw [this]

/-- Where spec.l3Put stands. -/
def scanL (l : List (List Int)) (p : List Int) : Nat → Nat
  | 0 => 0
  | k + 1 => if befL p (l.getD k []) then scanL l p k else k + 1
theorem getD_of {α : Type} {l : List α} {k : Nat} {z d : α} (h : l[k]? = some z) : l.getD k d = z := by rw [List.getD_eq_getElem?_getD, h]; rfl
theorem scanL_yes {l : List (List Int)} {p z : List Int} {k : Nat} (hz : l[k]? = some z) (h : befL p z = true) : scanL l p (k + 1) = scanL l p k := by rw [scanL, getD_of hz, if_pos h]
theorem scanL_no {l : List (List Int)} {p z : List Int} {k : Nat} (hz : l[k]? = some z) (h : befL p z = false) : scanL l p (k + 1) = k + 1 := by rw [scanL, getD_of hz, if_neg (by simp [h])]
theorem scanL_le (l : List (List Int)) (p : List Int) : ∀ k, scanL l p k ≤ k
  | 0 => Nat.le_refl _
  | k + 1 => by
    rw [scanL]
    by_cases h : befL p (l.getD k []) = true
    · rw [if_pos h]; have := scanL_le l p k; omega
    · rw [if_neg h]; exact Nat.le_refl _
theorem scanL_above (l : List (List Int)) (p : List Int) : ∀ k j, scanL l p k ≤ j → j < k → befL p (l.getD j []) = true
  | 0, j, _, h => by omega
  | k + 1, j, h1, h2 => by
    rw [scanL] at h1
    by_cases h : befL p (l.getD k []) = true
    · rw [if_pos h] at h1
      by_cases e : j = k
      · subst e; exact h
      · exact scanL_above l p k j h1 (by omega)
    · rw [if_neg h] at h1; omega
theorem scanL_at (l : List (List Int)) (p : List Int) : ∀ k m, scanL l p k = m + 1 → befL p (l.getD m []) = false
  | 0, m, h => by simp [scanL] at h
  | k + 1, m, h => by
    rw [scanL] at h
    by_cases hb : befL p (l.getD k []) = true
    · rw [if_pos hb] at h; exact scanL_at l p k m h
    · rw [if_neg hb] at h
      obtain rfl : k = m := by omega
      simpa using hb
def putL (l : List (List Int)) (p : List Int) : List (List Int) :=
  if 0 < scanL l p l.length ∧ l.getD (scanL l p l.length - 1) [] = p then l else l.take (scanL l p l.length) ++ [p] ++ l.drop (scanL l p l.length)
theorem putL_len (l : List (List Int)) (p : List Int) : l.length ≤ (putL l p).length ∧ (putL l p).length ≤ l.length + 1 := by
  unfold putL
  have := scanL_le l p l.length
  split
  · omega
  · simp; omega
theorem mem_putL {l : List (List Int)} {p x : List Int} : x ∈ putL l p ↔ x ∈ l ∨ x = p := by
  unfold putL
  split
  · next h =>
    constructor
    · exact .inl
    · rintro (h1 | rfl)
      · exact h1
      · have hlt : scanL l x l.length - 1 < l.length := by have := scanL_le l x l.length; omega
        have := h.2
        rw [List.getD_eq_getElem?_getD, List.getElem?_eq_getElem hlt] at this
        exact this ▸ List.getElem_mem hlt
  · have := List.take_append_drop (scanL l p l.length) l
    constructor
    · intro h
      simp only [List.mem_append, List.mem_singleton] at h
      rcases h with (h | h) | h
      · exact .inl (List.mem_of_mem_take h)
      · exact .inr h
      · exact .inl (List.mem_of_mem_drop h)
    · rintro (h | rfl)
      · rw [← this, List.mem_append] at h
        simp only [List.mem_append, List.mem_singleton]
        rcases h with h | h
        · exact .inl (.inl h)
        · exact .inr h
      · simp
theorem asc_putL {l : List (List Int)} {p : List Int} (h : Asc l) : Asc (putL l p) := by
  unfold putL
  split
  · exact h
  · next hno =>
    have hle := scanL_le l p l.length
    have hab := scanL_above l p l.length
    have hat := scanL_at l p l.length
    generalize scanL l p l.length = s at *
    have hlow : ∀ a ∈ l.take s, befL a p = true := by
      intro a ha
      obtain ⟨i, hi, rfl⟩ := List.getElem_of_mem ha
      rw [List.length_take] at hi
      rw [List.getElem_take]
      have h1 := hat (s - 1) (by omega)
      have h2 : l.getD (s - 1) [] ≠ p := fun e => hno ⟨by omega, e⟩
      rw [List.getD_eq_getElem?_getD, List.getElem?_eq_getElem (by omega : s - 1 < l.length)] at h1 h2
      have h3 := befL_of_ne h1 h2
      by_cases e : i = s - 1
      · subst e; exact h3
      · exact befL_trans (List.pairwise_iff_getElem.1 h i (s - 1) (by omega) (by omega) (by omega)) h3
    have hup : ∀ b ∈ l.drop s, befL p b = true := by
      intro b hb
      obtain ⟨i, hi, rfl⟩ := List.getElem_of_mem hb
      rw [List.length_drop] at hi
      rw [List.getElem_drop]
      have := hab (s + i) (by omega) (by omega)
      rwa [List.getD_eq_getElem?_getD, List.getElem?_eq_getElem (by omega : s + i < l.length)] at this
    unfold Asc
    rw [List.append_assoc, List.pairwise_append]
    refine ⟨h.sublist (List.take_sublist _ _), ?_, ?_⟩
    · rw [List.singleton_append, List.pairwise_cons]
      exact ⟨hup, h.sublist (List.drop_sublist _ _)⟩
    · intro a ha b hb
      rw [List.singleton_append, List.mem_cons] at hb
      rcases hb with rfl | hb
      · exact hlow a ha
      · exact befL_trans (hlow a ha) (hup b hb)
def ordL (l : List (List Int)) (k : Nat) : List (List Int) := (l.take k).foldl putL []
theorem ordL_zero (l : List (List Int)) : ordL l 0 = [] := by simp [ordL]
theorem ordL_step {l : List (List Int)} {k : Nat} {z : List Int} (h : l[k]? = some z) : ordL l (k + 1) = putL (ordL l k) z := by
  unfold ordL
  rw [List.take_add_one, h]
  simp
theorem foldl_put : ∀ (l : List (List Int)) (a : List (List Int)), Asc a → Asc (l.foldl putL a) ∧ (∀ x, x ∈ l.foldl putL a ↔ x ∈ a ∨ x ∈ l) ∧ (l.foldl putL a).length ≤ a.length + l.length
  | [], a, h => ⟨h, fun x => by simp, by simp⟩
  | p :: l, a, h => by
    obtain ⟨h1, h2, h3⟩ := foldl_put l (putL a p) (asc_putL h)
    refine ⟨h1, fun x => ?_, ?_⟩
    · rw [List.foldl_cons, h2 x, mem_putL, List.mem_cons, or_assoc]
    · have := (putL_len a p).2
      rw [List.foldl_cons, List.length_cons]
      omega
theorem ordL_asc (l : List (List Int)) (k : Nat) : Asc (ordL l k) := (foldl_put _ [] List.Pairwise.nil).1
theorem ordL_mem {l : List (List Int)} {k : Nat} {x : List Int} : x ∈ ordL l k ↔ x ∈ l.take k := by
  unfold ordL
  rw [(foldl_put _ [] List.Pairwise.nil).2.1 x]
  simp
theorem ordL_len (l : List (List Int)) (k : Nat) : (ordL l k).length ≤ l.length := by
  have := (foldl_put (l.take k) [] List.Pairwise.nil).2.2
  unfold ordL
  rw [List.length_take] at this
  simp only [List.length_nil] at this
  omega
def allP (l : List (List Int)) : Bool := l.all isP
theorem allP_no {l : List (List Int)} {z : List Int} (h : z ∈ l) (hz : isP z = false) : allP l = false := by
  unfold allP
  rw [List.all_eq_false]
  exact ⟨z, h, by simp [hz]⟩
theorem allP_at {l : List (List Int)} {z : List Int} (h : allP l = true) (hz : z ∈ l) : isP z = true := by
  unfold allP at h
  rw [List.all_eq_true] at h
  exact h z hz
theorem allP_yes {l : List (List Int)} (h : ∀ z ∈ l, isP z = true) : allP l = true := by
  unfold allP
  rw [List.all_eq_true]
  exact h
def ordR (l : List (List Int)) : List (List Int) := if allP l then ordL l l.length else []
theorem ordR_yes {l : List (List Int)} (h : allP l = true) : ordR l = ordL l l.length := by unfold ordR; rw [if_pos h]
theorem ordR_no {l : List (List Int)} (h : allP l = false) : ordR l = [] := by unfold ordR; rw [if_neg (by simp [h])]
theorem ordR_len (l : List (List Int)) : (ordR l).length ≤ l.length := by
  cases h : allP l with
  | true => rw [ordR_yes h]; exact ordL_len _ _
  | false => rw [ordR_no h]; exact Nat.zero_le _
theorem ordR_mem {l : List (List Int)} {x : List Int} (h : x ∈ ordR l) : isP x = true := by
  cases hp : allP l with
  | true =>
    rw [ordR_yes hp, ordL_mem, List.take_length] at h
    exact allP_at hp h
  | false => rw [ordR_no hp] at h; simp at h

/-! neighbors that are equal, left out -/
section
variable {α : Type} (f : α → List Int)
/-- Of the first k the ones that differ from the one before. -/
def keepN (xs : List α) : Nat → List α
  | 0 => []
  | k + 1 => match xs[k]? with
    | none => keepN xs k
    | some x => if 0 < k ∧ (xs[k - 1]?).map f = some (f x) then keepN xs k else keepN xs k ++ [x]
variable {f}
theorem keepN_same {xs : List α} {k : Nat} {x y : α} (h : xs[k]? = some x) (hk : 0 < k) (hy : xs[k - 1]? = some y) (he : f y = f x) : keepN f xs (k + 1) = keepN f xs k := by
  rw [keepN, h]
  simp only
  rw [if_pos ⟨hk, by rw [hy, Option.map_some, he]⟩]
theorem keepN_new {xs : List α} {k : Nat} {x y : α} (h : xs[k]? = some x) (hy : xs[k - 1]? = some y) (he : f y ≠ f x) : keepN f xs (k + 1) = keepN f xs k ++ [x] := by
  rw [keepN, h]
  simp only
  rw [if_neg]
  rintro ⟨_, e⟩
  rw [hy, Option.map_some] at e
  exact he (Option.some.inj e)
theorem keepN_one {xs : List α} {x : α} (h : xs[0]? = some x) : keepN f xs 1 = [x] := by
  rw [keepN, h]
  simp only
  rw [if_neg (by omega), keepN]
  rfl
theorem keepN_sub (xs : List α) : ∀ k, (keepN f xs k).Sublist (xs.take k)
  | 0 => by simp [keepN]
  | k + 1 => by
    rw [keepN]
    cases h : xs[k]? with
    | none =>
      simp only
      refine (keepN_sub xs k).trans ?_
      rw [List.take_add_one, h]
      simp
    | some x =>
      simp only
      rw [List.take_add_one, h]
      split
      · exact (keepN_sub xs k).trans (List.sublist_append_left _ _)
      · exact (keepN_sub xs k).append (List.Sublist.refl _)
theorem keepN_sorted {xs : List α} (hs : ∀ (i j : Nat) (x y : α), i < j → xs[i]? = some x → xs[j]? = some y → befL (f y) (f x) = false) :
    ∀ k, k ≤ xs.length → Asc ((keepN f xs k).map f) ∧ ∀ z, z ∈ (keepN f xs k).map f ↔ z ∈ (xs.take k).map f
  | 0, _ => ⟨by simp [keepN, Asc], fun z => by simp [keepN]⟩
  | k + 1, hk => by
    obtain ⟨h1, h2⟩ := keepN_sorted hs k (by omega)
    have hx : xs[k]? = some xs[k] := List.getElem?_eq_getElem (by omega)
    have ht : xs.take (k + 1) = xs.take k ++ [xs[k]] := by rw [List.take_add_one, hx]; rfl
    generalize xs[k] = x at hx ht
    cases k with
    | zero =>
      rw [keepN_one hx, ht]
      simp [Asc]
    | succ k =>
      have hy : xs[k]? = some xs[k] := List.getElem?_eq_getElem (by omega)
      generalize xs[k] = y at hy
      by_cases e : f y = f x
      · rw [keepN_same hx (by omega) (by simpa using hy) e, ht]
        refine ⟨h1, fun z => ?_⟩
        rw [h2 z, List.map_append, List.mem_append]
        simp only [List.map_cons, List.map_nil, List.mem_singleton]
        constructor
        · exact .inl
        · rintro (h | h)
          · exact h
          · subst h
            rw [← e]
            refine List.mem_map.2 ⟨y, ?_, rfl⟩
            rw [List.take_add_one, hy]
            simp
      · rw [keepN_new hx (by simpa using hy) e, ht]
        refine ⟨?_, fun z => ?_⟩
        · unfold Asc
          rw [List.map_append, List.pairwise_append]
          refine ⟨h1, by simp, fun a ha b hb => ?_⟩
          simp only [List.map_cons, List.map_nil, List.mem_singleton] at hb
          subst hb
          obtain ⟨a', ha', rfl⟩ := List.mem_map.1 ((h2 a).1 ha)
          obtain ⟨i, hi, rfl⟩ := List.getElem_of_mem ha'
          rw [List.length_take] at hi
          rw [List.getElem_take]
          have hyx : befL (f y) (f x) = true := befL_of_ne (hs k (k + 1) y x (by omega) hy hx) e
          by_cases ei : i = k
          · subst ei
            have : xs[i] = y := by
              rw [List.getElem?_eq_getElem (by omega)] at hy
              exact Option.some.inj hy
            rw [this]; exact hyx
          · exact befL_le_lt (hs i k _ y (by omega) (List.getElem?_eq_getElem (by omega)) hy) hyx
        · rw [List.map_append, List.map_append, List.mem_append, List.mem_append, h2 z]
end

/-! the symmetries -/
/-- n + 1 - v for each v. -/
def cplL (p : List Int) : List Int := p.map fun v => (p.length : Int) + 1 - v
theorem cplL_length (p : List Int) : (cplL p).length = p.length := by simp [cplL]
theorem cplL_at {p : List Int} {k : Nat} {z : Int} (h : p[k]? = some z) : (cplL p)[k]? = some ((p.length : Int) + 1 - z) := by
  unfold cplL
  rw [List.getElem?_map, h]; rfl
theorem isP_cpl {p : List Int} (h : isP p = true) : isP (cplL p) = true := by
  rw [isP_true] at h ⊢
  obtain ⟨h1, h2, h3⟩ := h
  refine ⟨by rw [cplL_length]; exact h1, fun x hx => ?_, ?_⟩
  · unfold cplL at hx
    obtain ⟨v, hv, rfl⟩ := List.mem_map.1 hx
    have := h2 v hv
    rw [cplL_length]
    omega
  · unfold cplL
    rw [List.nodup_iff_pairwise_ne, List.pairwise_map]
    exact h3.imp fun hne e => hne (by omega)
theorem isP_rev {p : List Int} (h : isP p = true) : isP p.reverse = true := by
  rw [isP_true] at h ⊢
  obtain ⟨h1, h2, h3⟩ := h
  refine ⟨by rw [List.length_reverse]; exact h1, fun x hx => by rw [List.length_reverse]; exact h2 x (List.mem_reverse.1 hx), ?_⟩
  rw [List.nodup_iff_pairwise_ne, List.pairwise_reverse]
  exact (List.nodup_iff_pairwise_ne.1 h3).imp fun h e => h e.symm
theorem invFill_at {l : List Int} (hr : ∀ x ∈ l, 1 ≤ x ∧ x ≤ (l.length : Int)) (hn : l.Nodup) : ∀ k i z, i < k → k ≤ l.length → l[i]? = some z → (invFill l k)[z.toNat - 1]? = some ((i : Int) + 1)
  | 0, i, z, h, _, _ => by omega
  | k + 1, i, z, h, hk, hz => by
    have hy : l[k]? = some l[k] := List.getElem?_eq_getElem (by omega)
    generalize l[k] = y at hy
    rw [← invFill_step hy]
    have hzr := hr z (List.mem_of_getElem? hz)
    have hyr := hr y (List.mem_of_getElem? hy)
    by_cases e : i = k
    · subst e
      obtain rfl : y = z := by rw [hy] at hz; exact Option.some.inj hz
      rw [List.getElem?_set_self (by rw [invFill_length]; omega)]
    · have hne : y ≠ z := fun e2 => by
        subst e2
        have hi : i < l.length := by omega
        rw [List.getElem?_eq_getElem hi] at hz
        rw [List.getElem?_eq_getElem (by omega : k < l.length)] at hy
        have := (List.pairwise_iff_getElem.1 (List.nodup_iff_pairwise_ne.1 hn)) i k hi (by omega) (by omega)
        exact this ((Option.some.inj hz).trans (Option.some.inj hy).symm)
      rw [List.getElem?_set_ne (by omega)]
      exact invFill_at hr hn k i z (by omega) (by omega) hz
theorem isP_inv {p : List Int} (h : isP p = true) : isP (invFill p p.length) = true := by
  rw [isP_true] at h ⊢
  obtain ⟨h1, h2, h3⟩ := h
  have hat := fun i z hi hz => invFill_at h2 h3 p.length i z hi (Nat.le_refl _) hz
  have hrange : ∀ x ∈ invFill p p.length, 1 ≤ x ∧ x ≤ ((invFill p p.length).length : Int) := by
    intro x hx
    rw [invFill_length]
    obtain ⟨j, hj, rfl⟩ := List.getElem_of_mem hx
    rw [invFill_length] at hj
    have hin := (nodup_iff_all h2).1 h3 j hj
    obtain ⟨i, hi, he⟩ := List.getElem_of_mem hin
    have := hat i ((j : Int) + 1) hi (by rw [List.getElem?_eq_getElem hi, he])
    rw [show ((j : Int) + 1).toNat - 1 = j by omega, List.getElem?_eq_getElem (by rw [invFill_length]; exact hj)] at this
    rw [Option.some.inj this]
    omega
  refine ⟨by rw [invFill_length]; exact h1, hrange, (nodup_iff_all hrange).2 fun j hj => ?_⟩
  rw [invFill_length] at hj
  exact List.mem_of_getElem? (hat j p[j] hj (List.getElem?_eq_getElem hj))

/-- The steps that are asked for by the three lowest digits of k. -/
def sym1 (p : List Int) (k : Nat) : List Int := if k % 2 = 1 then invFill p p.length else p
def sym2 (p : List Int) (k : Nat) : List Int := if k / 2 % 2 = 1 then (sym1 p k).reverse else sym1 p k
def symL (p : List Int) (k : Nat) : List Int := if 4 ≤ k then cplL (sym2 p k) else sym2 p k
theorem sym1_isP {p : List Int} (h : isP p = true) (k : Nat) : isP (sym1 p k) = true := by
  unfold sym1
  split
  · exact isP_inv h
  · exact h
theorem sym2_isP {p : List Int} (h : isP p = true) (k : Nat) : isP (sym2 p k) = true := by
  unfold sym2
  split
  · exact isP_rev (sym1_isP h k)
  · exact sym1_isP h k
theorem symL_isP {p : List Int} (h : isP p = true) (k : Nat) : isP (symL p k) = true := by
  unfold symL
  split
  · exact isP_cpl (sym2_isP h k)
  · exact sym2_isP h k
def revR (p : List Int) : List Int := if isP p then p.reverse else []
def cplR (p : List Int) : List Int := if isP p then cplL p else []
def symOK (p : List Int) (k : Int) : Bool := isP p && decide (0 ≤ k ∧ k ≤ 7)
def symR (p : List Int) (k : Int) : List Int := if symOK p k then symL p k.toNat else []
theorem revR_yes {p : List Int} (h : isP p = true) : revR p = p.reverse := by unfold revR; rw [if_pos h]
theorem revR_no {p : List Int} (h : isP p = false) : revR p = [] := by unfold revR; rw [if_neg (by simp [h])]
theorem cplR_yes {p : List Int} (h : isP p = true) : cplR p = cplL p := by unfold cplR; rw [if_pos h]
theorem cplR_no {p : List Int} (h : isP p = false) : cplR p = [] := by unfold cplR; rw [if_neg (by simp [h])]
theorem symOK_yes {p : List Int} {k : Int} (h : isP p = true) (hk : 0 ≤ k ∧ k ≤ 7) : symOK p k = true := by simp [symOK, h, hk]
theorem symOK_no1 {p : List Int} {k : Int} (h : isP p = false) : symOK p k = false := by simp [symOK, h]
theorem symOK_no2 {p : List Int} {k : Int} (hk : ¬ (0 ≤ k ∧ k ≤ 7)) : symOK p k = false := by simp [symOK, hk]
theorem symR_yes {p : List Int} {k : Int} (h : symOK p k = true) : symR p k = symL p k.toNat := by unfold symR; rw [if_pos h]
theorem symR_no {p : List Int} {k : Int} (h : symOK p k = false) : symR p k = [] := by unfold symR; rw [if_neg (by simp [h])]
theorem revR_le (p : List Int) : (revR p).length ≤ 8 := by
  cases h : isP p with
  | true => rw [revR_yes h, List.length_reverse]; exact isP_le h
  | false => rw [revR_no h]; simp
theorem cplR_le (p : List Int) : (cplR p).length ≤ 8 := by
  cases h : isP p with
  | true => rw [cplR_yes h, cplL_length]; exact isP_le h
  | false => rw [cplR_no h]; simp
theorem symR_le (p : List Int) (k : Int) : (symR p k).length ≤ 8 := by
  cases h : symOK p k with
  | true =>
    rw [symR_yes h]
    simp only [symOK, Bool.and_eq_true] at h
    exact isP_le (symL_isP h.1 _)
  | false => rw [symR_no h]; simp
/-- The eight images, the first k. -/
def imgs (p : List Int) (k : Nat) : List (List Int) := (List.range k).map fun j => symL p j
theorem imgs_length (p : List Int) (k : Nat) : (imgs p k).length = k := by simp [imgs]
theorem imgs_at {p : List Int} {k j : Nat} (h : j < k) : (imgs p k)[j]? = some (symL p j) := by
  unfold imgs
  rw [List.getElem?_map, List.getElem?_range h]; rfl
theorem imgs_all {p : List Int} (h : isP p = true) (k : Nat) : allP (imgs p k) = true := allP_yes fun z hz => by
  unfold imgs at hz
  obtain ⟨j, _, rfl⟩ := List.mem_map.1 hz
  exact symL_isP h j
def clsR (p : List Int) : List (List Int) := if isP p then ordR (imgs p 8) else []
theorem clsR_yes {p : List Int} (h : isP p = true) : clsR p = ordR (imgs p 8) := by unfold clsR; rw [if_pos h]
theorem clsR_no {p : List Int} (h : isP p = false) : clsR p = [] := by unfold clsR; rw [if_neg (by simp [h])]
theorem clsR_len (p : List Int) : (clsR p).length ≤ 8 := by
  cases h : isP p with
  | true => rw [clsR_yes h]; have := ordR_len (imgs p 8); rw [imgs_length] at this; exact this
  | false => rw [clsR_no h]; simp
theorem clsR_mem {p x : List Int} (h : x ∈ clsR p) : isP x = true := by
  cases hp : isP p with
  | true => rw [clsR_yes hp] at h; exact ordR_mem h
  | false => rw [clsR_no hp] at h; simp at h
theorem clsR_ne {p : List Int} (h : isP p = true) : clsR p ≠ [] := by
  rw [clsR_yes h, ordR_yes (imgs_all h 8)]
  intro e
  have : symL p 0 ∈ ordL (imgs p 8) (imgs p 8).length := by
    rw [ordL_mem, List.take_length]
    exact List.mem_of_getElem? (imgs_at (by omega : 0 < 8))
  rw [e] at this
  simp at this
def leastR (p : List Int) : List Int := (clsR p).headD []
theorem leastR_le (p : List Int) : (leastR p).length ≤ 8 := by
  unfold leastR
  cases h : clsR p with
  | nil => simp
  | cons x l => exact isP_le (clsR_mem (p := p) (by rw [h]; simp))
def invol (p : List Int) : Bool := isP p && decide (p = invFill p p.length)
theorem invol_no {p : List Int} (h : isP p = false) : invol p = false := by simp [invol, h]
theorem invol_yes {p : List Int} (h : isP p = true) : invol p = decide (p = invFill p p.length) := by simp [invol, h]
end Go.Proofs.Ythndeaodpjelgaa


/-
  PLAIN: the pattern of a list. Nothing here speaks of the program.
-/

namespace Go.Proofs.Ythndeaodpjelgaa
set_option maxRecDepth 100000

/-- How many are less than v. -/
def cnt (l : List Int) (v : Int) : Nat := (l.filter fun x => decide (x < v)).length
theorem cnt_nil (v : Int) : cnt [] v = 0 := rfl
theorem cnt_cons (x : Int) (l : List Int) (v : Int) : cnt (x :: l) v = (if x < v then 1 else 0) + cnt l v := by
  unfold cnt
  rw [List.filter_cons]
  by_cases h : x < v
  · simp [h]; omega
  · simp [h]
theorem cnt_snoc (l : List Int) (x v : Int) : cnt (l ++ [x]) v = cnt l v + if x < v then 1 else 0 := by
  unfold cnt
  rw [List.filter_append, List.length_append, List.filter_cons]
  by_cases h : x < v <;> simp [h]
theorem cnt_le (l : List Int) (v : Int) : cnt l v ≤ l.length := by unfold cnt; exact List.length_filter_le _ _
theorem cnt_mono : ∀ (l : List Int) {v v' : Int}, v ≤ v' → cnt l v ≤ cnt l v'
  | [], _, _, _ => Nat.le_refl _
  | x :: l, v, v', h => by
    have := cnt_mono l h
    rw [cnt_cons, cnt_cons]
    by_cases h1 : x < v
    · rw [if_pos h1, if_pos (by omega)]; omega
    · rw [if_neg h1]; omega
theorem cnt_lt : ∀ {l : List Int} {v v' : Int}, v ∈ l → v < v' → cnt l v + 1 ≤ cnt l v'
  | x :: l, v, v', hm, h => by
    rw [cnt_cons, cnt_cons]
    rcases List.mem_cons.1 hm with rfl | hm
    · have := cnt_mono l (v := v) (v' := v') (by omega)
      rw [if_neg (by omega), if_pos h]; omega
    · have := cnt_lt hm h
      by_cases h1 : x < v
      · rw [if_pos h1, if_pos (by omega)]; omega
      · rw [if_neg h1]; omega
theorem cnt_mem : ∀ {l : List Int} {v : Int}, v ∈ l → cnt l v + 1 ≤ l.length
  | x :: l, v, hm => by
    rw [cnt_cons, List.length_cons]
    rcases List.mem_cons.1 hm with rfl | hm
    · have := cnt_le l v
      rw [if_neg (by omega)]; omega
    · have := cnt_mem hm
      by_cases h1 : x < v
      · rw [if_pos h1]; omega
      · rw [if_neg h1]; omega
def patL (l : List Int) : List Int := l.map fun v => 1 + (cnt l v : Int)
theorem patL_length (l : List Int) : (patL l).length = l.length := by simp [patL]
theorem patL_at {l : List Int} {k : Nat} {z : Int} (h : l[k]? = some z) : (patL l)[k]? = some (1 + (cnt l z : Int)) := by unfold patL; rw [List.getElem?_map, h]; rfl
theorem patL_take {l : List Int} {k : Nat} {z : Int} (h : l[k]? = some z) : (patL l).take (k + 1) = (patL l).take k ++ [1 + (cnt l z : Int)] := take_snoc_i (patL_at h)
theorem patL_range {l : List Int} : ∀ x ∈ patL l, 1 ≤ x ∧ x ≤ (l.length : Int) := by
  intro x hx
  unfold patL at hx
  obtain ⟨v, hv, rfl⟩ := List.mem_map.1 hx
  have := cnt_mem hv
  omega
def patOK (l : List Int) : Bool := decide (l.length ≤ 8 ∧ l.Nodup)
theorem patOK_no8 {l : List Int} (h : 8 < l.length) : patOK l = false := by unfold patOK; simp; omega
theorem patOK_yes {l : List Int} (h : l.length ≤ 8) (h' : l.Nodup) : patOK l = true := by unfold patOK; simp [h, h']
theorem patOK_twice {l : List Int} {k : Nat} {z : Int} (hz : l[k]? = some z) (h : z ∈ l.take k) : patOK l = false := by
  unfold patOK
  rw [decide_eq_false_iff_not]
  rintro ⟨_, hn⟩
  have hnd : (l.take (k + 1)).Nodup := hn.sublist (List.take_sublist _ _)
  rw [take_snoc_i hz] at hnd
  exact (List.nodup_append.1 hnd).2.2 z h z (by simp) rfl
theorem nodup_step {l : List Int} {k : Nat} {z : Int} (hz : l[k]? = some z) (h : z ∉ l.take k) (hn : (l.take k).Nodup) : (l.take (k + 1)).Nodup := by
  rw [take_snoc_i hz, List.nodup_append]
  refine ⟨hn, by simp, fun a ha b hb e => ?_⟩
  rw [List.mem_singleton] at hb
  subst hb; subst e
  exact h ha
theorem nodup_of_map {f : Int → Int} : ∀ {l : List Int}, (l.map f).Nodup → l.Nodup
  | [], _ => List.nodup_nil
  | a :: l, h => by
    rw [List.map_cons, List.nodup_cons] at h
    exact List.nodup_cons.2 ⟨fun hm => h.1 (List.mem_map.2 ⟨a, hm, rfl⟩), nodup_of_map h.2⟩
theorem nodup_map {f : Int → Int} : ∀ {l : List Int}, (∀ a ∈ l, ∀ b ∈ l, f a = f b → a = b) → l.Nodup → (l.map f).Nodup
  | [], _, _ => List.nodup_nil
  | a :: l, hf, h => by
    rw [List.nodup_cons] at h
    rw [List.map_cons, List.nodup_cons]
    refine ⟨fun hm => ?_, nodup_map (fun x hx y hy => hf x (by simp [hx]) y (by simp [hy])) h.2⟩
    obtain ⟨b, hb, e⟩ := List.mem_map.1 hm
    have := hf b (by simp [hb]) a (by simp) e
    subst this
    exact h.1 hb
theorem isP_pat (l : List Int) : isP (patL l) = patOK l := by
  rw [Bool.eq_iff_iff, isP_true]
  unfold patOK IsP
  rw [decide_eq_true_eq, patL_length]
  constructor
  · rintro ⟨h1, _, h3⟩
    exact ⟨h1, nodup_of_map h3⟩
  · rintro ⟨h1, h2⟩
    refine ⟨h1, patL_range, nodup_map (fun a ha b hb e => ?_) h2⟩
    rcases Int.lt_trichotomy a b with h | h | h
    · have := cnt_lt ha h; omega
    · exact h
    · have := cnt_lt hb h; omega
def patR (l : List Int) : List Int := if patOK l then patL l else []
theorem patR_yes {l : List Int} (h : patOK l = true) : patR l = patL l := by unfold patR; rw [if_pos h]
theorem patR_no {l : List Int} (h : patOK l = false) : patR l = [] := by unfold patR; rw [if_neg (by simp [h])]
theorem patR_le (l : List Int) : (patR l).length ≤ 8 := by
  cases h : patOK l with
  | true =>
    rw [patR_yes h, patL_length]
    unfold patOK at h
    simp at h
    exact h.1
  | false => rw [patR_no h]; simp
end Go.Proofs.Ythndeaodpjelgaa


/-
  PLAIN: the list of all permutations of a length, made in two ways. Nothing here speaks of the program.
-/

namespace Go.Proofs.Ythndeaodpjelgaa
set_option maxRecDepth 100000

/-- All ways to go on from hd with d more of the numbers 1 to n. -/
def fillL (n : Nat) : Nat → List Int → List (List Int)
  | 0, hd => [hd]
  | d + 1, hd => (upTo n).flatMap fun v => if v ∈ hd then [] else fillL n d (hd ++ [v])
theorem fillL_zero (n : Nat) (hd : List Int) : fillL n 0 hd = [hd] := rfl
/-- .. with the next one among the first k numbers. -/
def fillK (n d : Nat) (hd : List Int) (k : Nat) : List (List Int) := (upTo k).flatMap fun v => if v ∈ hd then [] else fillL n d (hd ++ [v])
theorem fillK_zero (n d : Nat) (hd : List Int) : fillK n d hd 0 = [] := rfl
theorem fillK_all (n d : Nat) (hd : List Int) : fillK n d hd n = fillL n (d + 1) hd := rfl
theorem fillK_in {n d k : Nat} {hd : List Int} (h : (k : Int) + 1 ∈ hd) : fillK n d hd (k + 1) = fillK n d hd k := by
  unfold fillK
  rw [upTo_step, List.flatMap_append, List.flatMap_cons, List.flatMap_nil, if_pos h]
  simp
theorem fillK_out {n d k : Nat} {hd : List Int} (h : (k : Int) + 1 ∉ hd) : fillK n d hd (k + 1) = fillK n d hd k ++ fillL n d (hd ++ [(k : Int) + 1]) := by
  unfold fillK
  rw [upTo_step, List.flatMap_append, List.flatMap_cons, List.flatMap_nil, if_neg h]
  simp
/-- f ahead of r, whose numbers from f on are raised. -/
def up (f v : Int) : Int := if f ≤ v then v + 1 else v
def behind (f : Int) (r : List Int) : List Int := f :: r.map (up f)
def permL : Nat → List (List Int)
  | 0 => [[]]
  | n + 1 => (upTo (n + 1)).flatMap fun f => (permL n).map (behind f)
def permK (n j : Nat) : List (List Int) := (upTo j).flatMap fun f => (permL n).map (behind f)
theorem permK_all (n : Nat) : permK n (n + 1) = permL (n + 1) := rfl
theorem permK_step (n j : Nat) : permK n (j + 1) = permK n j ++ (permL n).map (behind ((j : Int) + 1)) := by
  unfold permK
  rw [upTo_step, List.flatMap_append, List.flatMap_cons, List.flatMap_nil]
  simp
def permI (n j i : Nat) : List (List Int) := permK n j ++ ((permL n).take i).map (behind ((j : Int) + 1))
theorem permI_zero (n j : Nat) : permI n j 0 = permK n j := by simp [permI]
theorem permI_all (n j : Nat) : permI n j (permL n).length = permK n (j + 1) := by
  unfold permI
  rw [permK_step, List.take_of_length_le (Nat.le_refl _)]
theorem permI_step {n j i : Nat} {r : List Int} (h : (permL n)[i]? = some r) : permI n j (i + 1) = permI n j i ++ [behind ((j : Int) + 1) r] := by
  unfold permI
  rw [List.take_add_one, h, List.map_append, ← List.append_assoc]
  rfl
theorem fillK_mono (n d : Nat) (hd : List Int) (k j : Nat) : (fillK n d hd k).length ≤ (fillK n d hd (k + j)).length := by
  induction j with
  | zero => exact Nat.le_refl _
  | succ j ih =>
    refine Nat.le_trans ih ?_
    by_cases h : ((k + j : Nat) : Int) + 1 ∈ hd
    · rw [← Nat.add_assoc, fillK_in h]; exact Nat.le_refl _
    · rw [← Nat.add_assoc, fillK_out h, List.length_append]; omega
theorem permK_length (n : Nat) : ∀ j, (permK n j).length = j * (permL n).length
  | 0 => by simp [permK, upTo]
  | j + 1 => by rw [permK_step, List.length_append, permK_length n j, List.length_map, Nat.add_mul, Nat.one_mul]
theorem permI_length (n j i : Nat) (h : i ≤ (permL n).length) : (permI n j i).length = j * (permL n).length + i := by
  unfold permI
  rw [List.length_append, permK_length, List.length_map, List.length_take]
  omega
theorem behind_step {f : Int} {r : List Int} {k : Nat} {z : Int} (h : r[k]? = some z) : f :: (r.take (k + 1)).map (up f) = (f :: (r.take k).map (up f)) ++ [up f z] := by
  rw [take_snoc_i h, List.map_append]; rfl
theorem up_yes {f v : Int} (h : f ≤ v) : up f v = v + 1 := by unfold up; rw [if_pos h]
theorem up_no {f v : Int} (h : v < f) : up f v = v := by unfold up; rw [if_neg (by omega)]
theorem behind_length (f : Int) (r : List Int) : (behind f r).length = r.length + 1 := by simp [behind]
theorem two_ways : ∀ n : Nat, n ≤ 6 → fillL n n [] = permL n := by decide +kernel
/-- How many numbers in all. -/
def tot (zss : List (List Int)) : Nat := (zss.map List.length).sum
theorem permL_small : ∀ n : Nat, n ≤ 6 → (permL n).length ≤ 720 ∧ tot (permL n) ≤ 4320 := by decide +kernel
theorem permL_rows : ∀ n : Nat, n ≤ 6 → ∀ r ∈ permL n, r.length = n ∧ ∀ x ∈ r, 1 ≤ x ∧ x ≤ 6 := by decide +kernel
def permsR (m : Int) : List (List Int) := if 0 ≤ m ∧ m ≤ 6 then permL m.toNat else []
theorem permsR_yes {n : Nat} (h : n ≤ 6) : permsR (n : Int) = permL n := by unfold permsR; rw [if_pos (by omega), Int.toNat_natCast]
theorem permsR_no {m : Int} (h : ¬ (0 ≤ m ∧ m ≤ 6)) : permsR m = [] := by unfold permsR; rw [if_neg h]
theorem permsR_small (m : Int) : (permsR m).length ≤ 720 ∧ tot (permsR m) ≤ 4320 := by
  by_cases h : 0 ≤ m ∧ m ≤ 6
  · obtain ⟨n, rfl⟩ : ∃ n : Nat, m = (n : Int) := ⟨m.toNat, by omega⟩
    rw [permsR_yes (by omega)]
    exact permL_small n (by omega)
  · rw [permsR_no h]; simp [tot]
theorem tot_snoc (a : List (List Int)) (b : List Int) : tot (a ++ [b]) = tot a + b.length := by simp [tot]
theorem tot_take (zss : List (List Int)) (i : Nat) : tot (zss.take i) ≤ tot zss := by
  have h : tot zss = tot (zss.take i) + tot (zss.drop i) := by
    unfold tot
    rw [← List.sum_append, ← List.map_append, List.take_append_drop]
  omega
theorem tot_step {zss : List (List Int)} {i : Nat} {z : List Int} (h : zss[i]? = some z) : tot (zss.take (i + 1)) = tot (zss.take i) + z.length := by
  rw [List.take_add_one, h]; exact tot_snoc _ _
end Go.Proofs.Ythndeaodpjelgaa


/-
  PLAIN: sums of permutations, the parts of a sum, what is layered.
-/

namespace Go.Proofs.Ythndeaodpjelgaa
set_option maxRecDepth 100000

/-- Two lists, one above the other one. -/
def joinL (skew : Bool) (p q : List Int) : List Int :=
  if skew then p.map (fun v => v + (q.length : Int)) ++ q else p ++ q.map (fun v => v + (p.length : Int))
theorem joinL_length (s : Bool) (p q : List Int) : (joinL s p q).length = p.length + q.length := by cases s <;> simp [joinL]
def fit (p q : List Int) : Bool := isP p && isP q && decide (p.length + q.length ≤ 8)
def joinR (s : Bool) (p q : List Int) : List Int := if fit p q then joinL s p q else []
theorem joinR_yes {s : Bool} {p q : List Int} (h : fit p q = true) : joinR s p q = joinL s p q := by unfold joinR; rw [if_pos h]
theorem joinR_no {s : Bool} {p q : List Int} (h : fit p q = false) : joinR s p q = [] := by unfold joinR; rw [if_neg (by simp [h])]
theorem fit_yes {p q : List Int} (h1 : isP p = true) (h2 : isP q = true) (h3 : p.length + q.length ≤ 8) : fit p q = true := by simp [fit, h1, h2, h3]
theorem fit_no1 {p q : List Int} (h1 : isP p = false) : fit p q = false := by simp [fit, h1]
theorem fit_no2 {p q : List Int} (h1 : isP q = false) : fit p q = false := by simp [fit, h1]
theorem fit_no3 {p q : List Int} (h1 : ¬ p.length + q.length ≤ 8) : fit p q = false := by simp [fit]; omega
theorem fit_all {p q : List Int} (h : fit p q = true) : isP p = true ∧ isP q = true ∧ p.length + q.length ≤ 8 := by simpa [fit, and_assoc] using h
theorem joinR_le (s : Bool) (p q : List Int) : (joinR s p q).length ≤ 8 := by
  cases h : fit p q with
  | true => rw [joinR_yes h, joinL_length]; exact (fit_all h).2.2
  | false => rw [joinR_no h]; simp
theorem isP_nil : isP [] = true := by decide
theorem isP_join {s : Bool} {p q : List Int} (h : fit p q = true) : isP (joinL s p q) = true := by
  obtain ⟨hp, hq, hl⟩ := fit_all h
  obtain ⟨_, hpr, hpn⟩ := isP_true.1 hp
  obtain ⟨_, hqr, hqn⟩ := isP_true.1 hq
  have inj : ∀ (c : Int) (l : List Int), l.Nodup → (l.map (fun v => v + c)).Nodup := fun c l hn => nodup_map (fun a _ b _ e => by omega) hn
  refine isP_true.2 ⟨by rw [joinL_length]; exact hl, ?_, ?_⟩
  · rw [joinL_length]
    intro x hx
    cases s with
    | true =>
      simp only [joinL, if_true, List.mem_append, List.mem_map] at hx
      rcases hx with ⟨v, hv, rfl⟩ | hx
      · have := hpr v hv; omega
      · have := hqr x hx; omega
    | false =>
      simp only [joinL, Bool.false_eq_true, if_false, List.mem_append, List.mem_map] at hx
      rcases hx with hx | ⟨v, hv, rfl⟩
      · have := hpr x hx; omega
      · have := hqr v hv; omega
  · cases s with
    | true =>
      simp only [joinL, if_true]
      refine List.nodup_append.2 ⟨inj _ _ hpn, hqn, fun a ha b hb e => ?_⟩
      obtain ⟨v, hv, rfl⟩ := List.mem_map.1 ha
      have := hpr v hv; have := hqr b hb; omega
    | false =>
      simp only [joinL, Bool.false_eq_true, if_false]
      refine List.nodup_append.2 ⟨hpn, inj _ _ hqn, fun a ha b hb e => ?_⟩
      obtain ⟨v, hv, rfl⟩ := List.mem_map.1 hb
      have := hpr a ha; have := hqr v hv; omega

/-- All elements of a list joined, as long as they fit. -/
def joinAll (s : Bool) (l : List (List Int)) : List Int := l.foldl (joinL s) []
def allFit (l : List (List Int)) : Bool := allP l && decide (tot l ≤ 8)
theorem joinAll_snoc (s : Bool) (l : List (List Int)) (z : List Int) : joinAll s (l ++ [z]) = joinL s (joinAll s l) z := by simp [joinAll]
theorem joinAll_length (s : Bool) (l : List (List Int)) : (joinAll s l).length = tot l := by
  have : ∀ (l : List (List Int)) (a : List Int), (l.foldl (joinL s) a).length = a.length + tot l := fun l => by
    induction l with
    | nil => intro a; simp [tot]
    | cons z l ih => intro a; rw [List.foldl_cons, ih, joinL_length]; simp [tot]; omega
  rw [joinAll, this]; simp
theorem joinAll_isP {s : Bool} (l : List (List Int)) (hp : allP l = true) (ht : tot l ≤ 8) : isP (joinAll s l) = true := by
  have : ∀ (l : List (List Int)) (a : List Int), isP a = true → allP l = true → a.length + tot l ≤ 8 → isP (l.foldl (joinL s) a) = true := fun l => by
    induction l with
    | nil => intro a ha _ _; exact ha
    | cons z l ih =>
      intro a ha hl ht
      have ht' : a.length + (z.length + tot l) ≤ 8 := by simpa [tot] using ht
      rw [List.foldl_cons]
      exact ih _ (isP_join (fit_yes ha (allP_at hl (by simp)) (by omega))) (allP_yes fun x hx => allP_at hl (by simp [hx])) (by rw [joinL_length]; omega)
  exact this l [] isP_nil hp (by simpa using ht)
def joinsR (s : Bool) (l : List (List Int)) : List Int := if allFit l then joinAll s l else []
theorem joinsR_yes {s : Bool} {l : List (List Int)} (h : allFit l = true) : joinsR s l = joinAll s l := by unfold joinsR; rw [if_pos h]
theorem joinsR_no {s : Bool} {l : List (List Int)} (h : allFit l = false) : joinsR s l = [] := by unfold joinsR; rw [if_neg (by simp [h])]
theorem joinsR_le (s : Bool) (l : List (List Int)) : (joinsR s l).length ≤ 8 := by
  cases h : allFit l with
  | true =>
    rw [joinsR_yes h, joinAll_length]
    simp [allFit] at h; exact h.2
  | false => rw [joinsR_no h]; simp
theorem allFit_no1 {l : List (List Int)} {z : List Int} (h : z ∈ l) (hz : isP z = false) : allFit l = false := by simp [allFit, allP_no h hz]
theorem allFit_no2 {l : List (List Int)} (h : 8 < tot l) : allFit l = false := by simp [allFit]; omega
theorem allFit_yes {l : List (List Int)} (h : ∀ z ∈ l, isP z = true) (ht : tot l ≤ 8) : allFit l = true := by simp [allFit, allP_yes h, ht]
theorem take_snoc_r {l : List (List Int)} {k : Nat} {z : List Int} (h : l[k]? = some z) : l.take (k + 1) = l.take k ++ [z] := by rw [List.take_add_one, h]; rfl
theorem tot_take' {l : List (List Int)} {k : Nat} {z : List Int} (h : l[k]? = some z) : tot (l.take (k + 1)) = tot (l.take k) + z.length := by rw [take_snoc_r h, tot_snoc]
theorem tot_take_le (l : List (List Int)) (k : Nat) : tot (l.take k) ≤ tot l := by
  have this : ∀ a b : List (List Int), tot (a ++ b) = tot a + tot b := fun a b => by simp [tot]
  have h := this (l.take k) (l.drop k)
  rw [List.take_append_drop] at h
  omega
theorem joinAll_take {s : Bool} {l : List (List Int)} {k : Nat} {z : List Int} (h : l[k]? = some z) : joinAll s (l.take (k + 1)) = joinL s (joinAll s (l.take k)) z := by rw [take_snoc_r h, joinAll_snoc]

/-- The flat form: each element raised at once. -/
def flatAll (s : Bool) (L : Nat) : List (List Int) → Nat → List Int
  | [], _ => []
  | z :: l, n => z.map (fun v => v + ((if s then L - n - z.length else n : Nat) : Int)) ++ flatAll s L l (n + z.length)
theorem flatAll_snoc (s : Bool) (L : Nat) : ∀ (l : List (List Int)) (n : Nat) (z : List Int), flatAll s L (l ++ [z]) n = flatAll s L l n ++ z.map (fun v => v + ((if s then L - (n + tot l) - z.length else n + tot l : Nat) : Int))
  | [], n, z => by simp [flatAll, tot]
  | y :: l, n, z => by
    rw [List.cons_append, flatAll, flatAll, flatAll_snoc s L l]
    have e : n + y.length + tot l = n + tot (y :: l) := by simp [tot]; omega
    rw [e, List.append_assoc]
theorem flatAll_more (L m : Nat) : ∀ (l : List (List Int)) (n : Nat), n + tot l ≤ L → flatAll true (L + m) l n = (flatAll true L l n).map (fun v => v + (m : Int))
  | [], _, _ => by simp [flatAll]
  | y :: l, n, h => by
    have h' : n + (y.length + tot l) ≤ L := by simpa [tot] using h
    rw [flatAll, flatAll, flatAll_more L m l _ (by omega), List.map_append, List.map_map]
    congr 1
    refine List.map_congr_left fun v _ => ?_
    simp only [if_true, Function.comp]
    omega
theorem flat_join (s : Bool) (l : List (List Int)) : flatAll s (tot l) l 0 = joinAll s l := by
  have : ∀ (k : Nat), k ≤ l.length → flatAll s (tot (l.take k)) (l.take k) 0 = joinAll s (l.take k) := fun k => by
    induction k with
    | zero => intro _; simp [flatAll, joinAll]
    | succ k ih =>
      intro hk
      obtain ⟨z, hz⟩ : ∃ z, l[k]? = some z := ⟨_, List.getElem?_eq_getElem (by omega)⟩
      rw [joinAll_take hz, ← ih (by omega), tot_take' hz, take_snoc_r hz, flatAll_snoc]
      have hlen : (flatAll s (tot (l.take k)) (l.take k) 0).length = tot (l.take k) := by rw [ih (by omega), joinAll_length]
      cases s with
      | true =>
        rw [flatAll_more _ _ _ _ (by omega)]
        simp only [joinL, if_true]
        congr 1
        have : tot (l.take k) + z.length - (0 + tot (l.take k)) - z.length = 0 := by omega
        rw [this]
        simp
      | false =>
        simp only [joinL, Bool.false_eq_true, if_false, hlen]
        have e : ∀ L L' n, flatAll false L (l.take k) n = flatAll false L' (l.take k) n := fun L L' n => by
          generalize l.take k = m
          induction m generalizing n with
          | nil => rfl
          | cons y m ih => simp only [flatAll, Bool.false_eq_true, if_false]; rw [ih]
        rw [e _ (tot (l.take k)) 0]
        simp
  have h := this l.length (Nat.le_refl _)
  rwa [List.take_length] at h

/-- The greatest of a list and 0. -/
def most (l : List Int) : Int := l.foldl max 0
theorem most_take {l : List Int} {k : Nat} {z : Int} (h : l[k]? = some z) : most (l.take (k + 1)) = max (most (l.take k)) z := by rw [take_snoc_i h]; simp [most]
/-- Where the part that is under way began; the parts that ended. -/
def frm (p : List Int) : Nat → Nat
  | 0 => 0
  | k + 1 => if most (p.take (k + 1)) = (k : Int) + 1 then k + 1 else frm p k
def prt (p : List Int) : Nat → List (List Int)
  | 0 => []
  | k + 1 => if most (p.take (k + 1)) = (k : Int) + 1 then prt p k ++ [patL ((p.drop (frm p k)).take (k + 1 - frm p k))] else prt p k
theorem frm_le (p : List Int) : ∀ k, frm p k ≤ k
  | 0 => Nat.le_refl _
  | k + 1 => by
    rw [frm]
    have := frm_le p k
    split <;> omega
theorem frm_yes {p : List Int} {k : Nat} (h : most (p.take (k + 1)) = (k : Int) + 1) : frm p (k + 1) = k + 1 := by rw [frm, if_pos h]
theorem frm_no {p : List Int} {k : Nat} (h : ¬ most (p.take (k + 1)) = (k : Int) + 1) : frm p (k + 1) = frm p k := by rw [frm, if_neg h]
theorem prt_yes {p : List Int} {k : Nat} (h : most (p.take (k + 1)) = (k : Int) + 1) : prt p (k + 1) = prt p k ++ [patL ((p.drop (frm p k)).take (k + 1 - frm p k))] := by rw [prt, if_pos h]
theorem prt_no {p : List Int} {k : Nat} (h : ¬ most (p.take (k + 1)) = (k : Int) + 1) : prt p (k + 1) = prt p k := by rw [prt, if_neg h]
theorem prt_len (p : List Int) : ∀ k, (prt p k).length ≤ k
  | 0 => Nat.le_refl _
  | k + 1 => by
    rw [prt]
    have := prt_len p k
    split
    · rw [List.length_append]; simp; omega
    · omega
theorem prt_tot (p : List Int) : ∀ k, tot (prt p k) ≤ frm p k
  | 0 => by simp [prt, tot]
  | k + 1 => by
    have h1 := prt_tot p k
    have h2 := frm_le p k
    by_cases h : most (p.take (k + 1)) = (k : Int) + 1
    · rw [prt_yes h, frm_yes h, tot_snoc, patL_length, List.length_take]; omega
    · rw [prt_no h, frm_no h]; exact h1
theorem nodup_cut {p : List Int} (h : p.Nodup) (a b : Nat) : ((p.drop a).take b).Nodup := (List.nodup_iff_pairwise_ne.1 h).sublist ((List.take_sublist _ _).trans (List.drop_sublist _ _)) |> List.nodup_iff_pairwise_ne.2
theorem patOK_cut {p : List Int} (h : isP p = true) (a b : Nat) : patOK ((p.drop a).take b) = true := by
  obtain ⟨h8, _, hn⟩ := isP_true.1 h
  exact patOK_yes (by rw [List.length_take, List.length_drop]; omega) (nodup_cut hn a b)
theorem prt_isP {p : List Int} (h : isP p = true) : ∀ k z, z ∈ prt p k → isP z = true
  | 0, z, hz => by simp [prt] at hz
  | k + 1, z, hz => by
    by_cases hm : most (p.take (k + 1)) = (k : Int) + 1
    · rw [prt_yes hm] at hz
      rcases List.mem_append.1 hz with hz | hz
      · exact prt_isP h k z hz
      · obtain rfl := List.mem_singleton.1 hz
        rw [isP_pat]; exact patOK_cut h _ _
    · rw [prt_no hm] at hz
      exact prt_isP h k z hz
def partsR (p : List Int) : List (List Int) := if isP p then prt p p.length else []
theorem partsR_yes {p : List Int} (h : isP p = true) : partsR p = prt p p.length := by unfold partsR; rw [if_pos h]
theorem partsR_no {p : List Int} (h : isP p = false) : partsR p = [] := by unfold partsR; rw [if_neg (by simp [h])]
theorem partsR_isP {p z : List Int} (hz : z ∈ partsR p) : isP z = true := by
  cases h : isP p with
  | true => rw [partsR_yes h] at hz; exact prt_isP h _ z hz
  | false => rw [partsR_no h] at hz; simp at hz
theorem partsR_small (p : List Int) : (partsR p).length ≤ 8 ∧ tot (partsR p) ≤ 8 := by
  cases h : isP p with
  | true =>
    have := isP_le h
    have := prt_len p p.length
    have := prt_tot p p.length
    have := frm_le p p.length
    rw [partsR_yes h]; omega
  | false => rw [partsR_no h]; simp [tot]
theorem partsR_allP (p : List Int) : allP (partsR p) = true := allP_yes fun _ hz => partsR_isP hz
def skewsR (p : List Int) : List (List Int) := if isP p then (partsR (cplL p)).map cplL else []
theorem skewsR_yes {p : List Int} (h : isP p = true) : skewsR p = (partsR (cplL p)).map cplL := by unfold skewsR; rw [if_pos h]
theorem skewsR_no {p : List Int} (h : isP p = false) : skewsR p = [] := by unfold skewsR; rw [if_neg (by simp [h])]
theorem tot_map_cpl : ∀ l : List (List Int), tot (l.map cplL) = tot l
  | [] => rfl
  | z :: l => by
    have := tot_map_cpl l
    simp only [tot, List.map_cons, List.map_map] at this ⊢
    rw [List.sum_cons, List.sum_cons, this, cplL_length]
theorem skewsR_small (p : List Int) : (skewsR p).length ≤ 8 ∧ tot (skewsR p) ≤ 8 := by
  cases h : isP p with
  | true => rw [skewsR_yes h, tot_map_cpl, List.length_map]; exact partsR_small _
  | false => rw [skewsR_no h]; simp [tot]
theorem skewsR_isP {p z : List Int} (hz : z ∈ skewsR p) : isP z = true := by
  cases h : isP p with
  | true =>
    rw [skewsR_yes h] at hz
    obtain ⟨y, hy, rfl⟩ := List.mem_map.1 hz
    exact isP_cpl (partsR_isP hy)
  | false => rw [skewsR_no h] at hz; simp at hz
/-- What is layered. -/
def layer (p : List Int) : Bool := isP p && (partsR p).all fun z => decide (z.reverse = upTo z.length)
theorem layer_no {p : List Int} (h : isP p = false) : layer p = false := by simp [layer, h]
theorem layer_at {p z : List Int} (hz : z ∈ partsR p) (h : z.reverse ≠ upTo z.length) : layer p = false := by
  unfold layer
  rw [Bool.and_eq_false_iff]
  right
  rw [List.all_eq_false]
  exact ⟨z, hz, by simpa using h⟩
theorem layer_yes {p : List Int} (h : isP p = true) (hz : ∀ z ∈ partsR p, z.reverse = upTo z.length) : layer p = true := by
  unfold layer
  rw [h, Bool.true_and, List.all_eq_true]
  exact fun z hz' => by simpa using hz z hz'
/-- A permutation in ascending order is 1, 2, and so on. -/
theorem asc_upTo {l : List Int} (h : isP l = true) (hs : ∀ i, i + 1 < l.length → at0 l i ≤ at0 l (i + 1)) : l = upTo l.length := by
  obtain ⟨_, hr, hn⟩ := isP_true.1 h
  have hlt : ∀ i j, i < j → j < l.length → at0 l i < at0 l j := fun i j => by
    induction j with
    | zero => intro h; omega
    | succ j ih =>
      intro hij hj
      have h1 := hs j hj
      have hne : at0 l j ≠ at0 l (j + 1) := fun e => by
        have := (List.getElem?_inj (i := j) (j := j + 1) (by omega) hn).1 (by rw [at0_some (by omega), at0_some hj, e])
        omega
      by_cases hij' : i = j
      · subst hij'; omega
      · have := ih (by omega) (by omega); omega
  have hlo : ∀ i, i < l.length → (i : Int) + 1 ≤ at0 l i := fun i => by
    induction i with
    | zero => intro hi; have := hr _ (List.mem_of_getElem? (at0_some hi)); omega
    | succ i ih => intro hi; have := ih (by omega); have := hlt i (i + 1) (by omega) hi; omega
  have hhi : ∀ d i, i < l.length → i + d + 1 = l.length → at0 l i ≤ (i : Int) + 1 := fun d => by
    induction d with
    | zero => intro i hi e; have := hr _ (List.mem_of_getElem? (at0_some hi)); omega
    | succ d ih => intro i hi e; have := ih (i + 1) (by omega) (by omega); have := hlt i (i + 1) (by omega) (by omega); omega
  refine List.ext_getElem? fun i => ?_
  by_cases hi : i < l.length
  · rw [at0_some hi]
    have h1 := hlo i hi
    have h2 := hhi (l.length - i - 1) i hi (by omega)
    unfold upTo
    rw [List.getElem?_map, List.getElem?_range hi]
    simp only [Option.map_some]
    congr 1
    omega
  · rw [List.getElem?_eq_none (by omega), List.getElem?_eq_none (by rw [upTo_length]; omega)]
end Go.Proofs.Ythndeaodpjelgaa


/-
  PLAIN: the parts of a sum, joined, are the sum; no permutation is a sum and a skew sum; parts of a sum of two.
-/

namespace Go.Proofs.Ythndeaodpjelgaa
set_option maxRecDepth 100000

theorem most_from : ∀ (l : List Int) (a : Int), a ≤ l.foldl max a ∧ (∀ x ∈ l, x ≤ l.foldl max a) ∧ (l.foldl max a = a ∨ l.foldl max a ∈ l)
  | [], a => ⟨Int.le_refl _, fun x hx => by simp at hx, .inl rfl⟩
  | y :: l, a => by
    obtain ⟨h1, h2, h3⟩ := most_from l (max a y)
    rw [List.foldl_cons]
    refine ⟨by omega, fun x hx => ?_, ?_⟩
    · rcases List.mem_cons.1 hx with rfl | hx
      · omega
      · exact h2 x hx
    · rcases h3 with h3 | h3
      · by_cases h : a ≤ y
        · right; rw [h3, show max a y = y by omega]; simp
        · left; rw [h3]; omega
      · exact .inr (List.mem_cons_of_mem _ h3)
theorem le_most {l : List Int} {x : Int} (h : x ∈ l) : x ≤ most l := (most_from l 0).2.1 x h
theorem most_mem {l : List Int} : most l = 0 ∨ most l ∈ l := (most_from l 0).2.2
theorem most_isP {p : List Int} (h : isP p = true) : most p = p.length := by
  obtain ⟨_, hr, hn⟩ := isP_true.1 h
  have h1 : most p ≤ p.length := by
    rcases most_mem (l := p) with e | e
    · omega
    · exact (hr _ e).2
  by_cases h0 : p.length = 0
  · have := (most_from p 0).1; unfold most; unfold most at h1; omega
  · have h2 := (nodup_iff_all hr).1 hn (p.length - 1) (by omega)
    have h3 := le_most h2
    omega
/-- At a cut the numbers so far are a permutation. -/
theorem cut_isP {p : List Int} (h : isP p = true) {j : Nat} (hj : j ≤ p.length) (hc : most (p.take j) = j) : isP (p.take j) = true := by
  obtain ⟨h8, hr, hn⟩ := isP_true.1 h
  refine isP_true.2 ⟨by rw [List.length_take]; omega, fun x hx => ?_, ?_⟩
  · rw [List.length_take, Nat.min_eq_left hj]
    exact ⟨(hr x (List.mem_of_mem_take hx)).1, by rw [← hc]; exact le_most hx⟩
  · exact nodup_cut (a := 0) hn (b := j)
theorem cnt_app (a b : List Int) (v : Int) : cnt (a ++ b) v = cnt a v + cnt b v := by unfold cnt; rw [List.filter_append, List.length_append]
theorem cnt_upTo (n : Nat) (v : Int) (h1 : 1 ≤ v) (h2 : v ≤ n) : (cnt (upTo n) v : Int) = v - 1 := by
  have : ∀ k : Nat, (cnt (upTo k) v : Int) = min (v - 1) k := fun k => by
    induction k with
    | zero =>
      have : cnt (upTo 0) v = 0 := rfl
      rw [this]; omega
    | succ k ih =>
      rw [upTo_step, cnt_snoc]
      by_cases h : (k : Int) + 1 < v
      · rw [if_pos h]; omega
      · rw [if_neg h]; omega
  rw [this n]; omega
theorem perm_upTo {l : List Int} (h : isP l = true) : l.Perm (upTo l.length) := by
  obtain ⟨_, hr, hn⟩ := isP_true.1 h
  refine (List.perm_ext_iff_of_nodup hn (upTo_nodup _)).2 fun x => ⟨fun hx => mem_upTo.2 (hr x hx), fun hx => ?_⟩
  obtain ⟨h1, h2⟩ := mem_upTo.1 hx
  have := (nodup_iff_all hr).1 hn (x - 1).toNat (by omega)
  rwa [show (((x - 1).toNat : Nat) : Int) + 1 = x by omega] at this
theorem cnt_isP {l : List Int} (h : isP l = true) {v : Int} (hv : v ∈ l) : (cnt l v : Int) = v - 1 := by
  obtain ⟨h1, h2⟩ := (isP_true.1 h).2.1 v hv
  have e : cnt l v = cnt (upTo l.length) v := by unfold cnt; exact ((perm_upTo h).filter _).length_eq
  rw [e]
  exact cnt_upTo _ _ h1 h2
theorem cnt_all {l : List Int} {v : Int} (h : ∀ x ∈ l, x < v) : cnt l v = l.length := by
  unfold cnt
  rw [List.filter_eq_self.2 (fun x hx => by simpa using h x hx)]
/-- The pattern of a part, raised to where it began, is the part. -/
theorem part_back {p : List Int} (h : isP p = true) {f k : Nat} (hfk : f ≤ k) (hk : k < p.length) (hf : most (p.take f) = f) (hc : most (p.take (k + 1)) = (k : Int) + 1) :
    (patL ((p.drop f).take (k + 1 - f))).map (fun v => v + (f : Int)) = (p.drop f).take (k + 1 - f) := by
  obtain ⟨seg, hseg⟩ : ∃ seg, seg = (p.drop f).take (k + 1 - f) := ⟨_, rfl⟩
  rw [← hseg]
  have hsplit : p.take (k + 1) = p.take f ++ seg := by
    rw [hseg, ← List.drop_take, show p.take f = (p.take (k + 1)).take f by rw [List.take_take, Nat.min_eq_left (by omega)], List.take_append_drop]
  have h1 := cut_isP h (j := f) (by omega) hf
  have h2 := cut_isP h (j := k + 1) (by omega) (by rw [hc]; omega)
  have hn := (isP_true.1 h2).2.2
  rw [hsplit] at hn
  have hdis := (List.nodup_append.1 hn).2.2
  unfold patL
  rw [List.map_map]
  refine (List.map_congr_left fun v hv => ?_).trans (List.map_id _)
  simp only [Function.comp, id]
  have hv2 : v ∈ p.take (k + 1) := by rw [hsplit]; exact List.mem_append_right _ hv
  have e1 := cnt_isP h2 hv2
  rw [hsplit, cnt_app] at e1
  have hfl : (p.take f).length = f := by rw [List.length_take]; omega
  have hbig : ∀ x ∈ p.take f, x < v := fun x hx => by
    have hxf := (isP_true.1 h1).2.1 x hx
    rw [hfl] at hxf
    have hvpos := ((isP_true.1 h2).2.1 v hv2).1
    by_cases hvf : v ≤ (f : Int)
    · have hin := (nodup_iff_all (isP_true.1 h1).2.1).1 (isP_true.1 h1).2.2 (v - 1).toNat (by rw [hfl]; omega)
      rw [show (((v - 1).toNat : Nat) : Int) + 1 = v by omega] at hin
      exact absurd rfl (hdis v hin v hv)
    · omega
  rw [cnt_all hbig, hfl] at e1
  omega
theorem prt_cut {p : List Int} (h : isP p = true) : ∀ k, k ≤ p.length → most (p.take (frm p k)) = (frm p k : Int) ∧ joinAll false (prt p k) = p.take (frm p k)
  | 0, _ => by simp [frm, prt, most, joinAll]
  | k + 1, hk => by
    obtain ⟨h1, h2⟩ := prt_cut h k (by omega)
    by_cases hc : most (p.take (k + 1)) = (k : Int) + 1
    · rw [frm_yes hc, prt_yes hc]
      refine ⟨by rw [hc]; omega, ?_⟩
      rw [joinAll_snoc, h2]
      have hfk := frm_le p k
      have hb := part_back h hfk (by omega) h1 hc
      have hfl : (p.take (frm p k)).length = frm p k := by rw [List.length_take]; omega
      simp only [joinL, Bool.false_eq_true, if_false, hfl]
      rw [hb, ← List.drop_take, show p.take (frm p k) = (p.take (k + 1)).take (frm p k) by rw [List.take_take, Nat.min_eq_left (by omega)], List.take_append_drop]
    · rw [frm_no hc, prt_no hc]
      exact ⟨h1, h2⟩
theorem frm_full {p : List Int} (h : isP p = true) : frm p p.length = p.length := by
  cases hn : p.length with
  | zero => rfl
  | succ n =>
    refine frm_yes ?_
    rw [← hn, List.take_length, most_isP h]; omega
theorem join_parts {p : List Int} (h : isP p = true) : joinAll false (partsR p) = p := by
  rw [partsR_yes h, (prt_cut h p.length (Nat.le_refl _)).2, frm_full h, List.take_length]
theorem parts_fit (p : List Int) : allFit (partsR p) = true := allFit_yes (fun _ hz => partsR_isP hz) (partsR_small p).2
theorem skews_fit (p : List Int) : allFit (skewsR p) = true := allFit_yes (fun _ hz => skewsR_isP hz) (skewsR_small p).2
theorem joins_parts {p : List Int} (h : isP p = true) : joinsR false (partsR p) = p := by rw [joinsR_yes (parts_fit p), join_parts h]
theorem cpl_cpl (p : List Int) : cplL (cplL p) = p := by
  unfold cplL
  rw [List.map_map, List.length_map]
  refine (List.map_congr_left fun v _ => ?_).trans (List.map_id _)
  simp only [Function.comp, id]
  omega
theorem cpl_join (a b : List Int) : joinL true (cplL a) (cplL b) = cplL (joinL false a b) := by
  simp only [joinL, if_true, Bool.false_eq_true, if_false, cplL_length]
  unfold cplL
  rw [List.map_append, List.map_map, List.map_map, List.length_append, List.length_map]
  congr 1
  · refine List.map_congr_left fun v _ => ?_
    simp only [Function.comp]; omega
  · refine List.map_congr_left fun v _ => ?_
    simp only [Function.comp]; omega
theorem cpl_joins (l : List (List Int)) : joinAll true (l.map cplL) = cplL (joinAll false l) := by
  have : ∀ (l : List (List Int)) (a : List Int), (l.map cplL).foldl (joinL true) (cplL a) = cplL (l.foldl (joinL false) a) := fun l => by
    induction l with
    | nil => intro a; rfl
    | cons z l ih => intro a; rw [List.map_cons, List.foldl_cons, List.foldl_cons, cpl_join, ih]
  exact this l []
theorem joins_skews {p : List Int} (h : isP p = true) : joinsR true (skewsR p) = p := by
  rw [joinsR_yes (skews_fit p), skewsR_yes h, cpl_joins, join_parts (isP_cpl h), cpl_cpl]
/-- Two parts: there is a cut in between. -/
theorem cut_between {p : List Int} (h : 1 < (prt p p.length).length) : ∃ j, 0 < j ∧ j < p.length ∧ most (p.take j) = j := by
  have hno : ∀ k, (∀ j, 0 < j → j ≤ k → most (p.take j) ≠ j) → prt p k = [] := fun k => by
    induction k with
    | zero => intro _; rfl
    | succ k ih =>
      intro hk
      have : ¬ most (p.take (k + 1)) = (k : Int) + 1 := fun e => hk (k + 1) (by omega) (Nat.le_refl _) (by rw [e]; omega)
      rw [prt_no this]
      exact ih fun j h1 h2 => hk j h1 (by omega)
  cases hn : p.length with
  | zero => rw [hn] at h; simp [prt] at h
  | succ n =>
    rw [hn] at h
    by_cases hall : ∀ j, 0 < j → j ≤ n → most (p.take j) ≠ j
    · have e := hno n hall
      rw [prt, e] at h
      split at h <;> simp at h
    · have : ∃ j, 0 < j ∧ j ≤ n ∧ most (p.take j) = j := by
        refine Classical.byContradiction fun hc => hall fun j h1 h2 e => hc ⟨j, h1, h2, e⟩
      obtain ⟨j, h1, h2, h3⟩ := this
      exact ⟨j, h1, by omega, h3⟩
theorem not_both {p : List Int} (h1 : 1 < (partsR p).length) (h2 : 1 < (skewsR p).length) : False := by
  cases h : isP p with
  | false => rw [partsR_no h] at h1; simp at h1
  | true =>
    rw [partsR_yes h] at h1
    rw [skewsR_yes h, List.length_map, partsR_yes (isP_cpl h)] at h2
    obtain ⟨j, hj0, hjn, hjc⟩ := cut_between h1
    obtain ⟨i, hi0, hin, hic⟩ := cut_between h2
    rw [cplL_length] at hin
    have a1 := cut_isP h (Nat.le_of_lt hjn) hjc
    have a2 := cut_isP (isP_cpl h) (by rw [cplL_length]; omega) hic
    have lj : (p.take j).length = j := by rw [List.length_take]; omega
    have li : ((cplL p).take i).length = i := by rw [List.length_take, cplL_length]; omega
    have one_j : (1 : Int) ∈ p.take j := by
      have := (nodup_iff_all (isP_true.1 a1).2.1).1 (isP_true.1 a1).2.2 0 (by omega)
      simpa using this
    have top_j : ∀ x ∈ p.take j, x ≤ (j : Int) := fun x hx => by have := ((isP_true.1 a1).2.1 x hx).2; rwa [lj] at this
    have emap : (cplL p).take i = (p.take i).map fun v => (p.length : Int) + 1 - v := by unfold cplL; rw [List.map_take]
    have top_i : (p.length : Int) ∈ p.take i := by
      have := (nodup_iff_all (isP_true.1 a2).2.1).1 (isP_true.1 a2).2.2 0 (by omega)
      rw [emap] at this
      obtain ⟨v, hv, e⟩ := List.mem_map.1 this
      rwa [show v = (p.length : Int) by omega] at hv
    have one_i : (1 : Int) ∉ p.take i := fun hx => by
      have h3 : (p.length : Int) + 1 - 1 ∈ (cplL p).take i := by rw [emap]; exact List.mem_map.2 ⟨1, hx, rfl⟩
      have := ((isP_true.1 a2).2.1 _ h3).2
      rw [li] at this
      omega
    by_cases hij : j ≤ i
    · exact one_i (by rw [show p.take j = (p.take i).take j by rw [List.take_take, Nat.min_eq_left hij]] at one_j; exact List.mem_of_mem_take one_j)
    · have := top_j _ (by rw [show p.take i = (p.take j).take i by rw [List.take_take, Nat.min_eq_left (by omega)]] at top_i; exact List.mem_of_mem_take top_i)
      omega
theorem most_map (c : Int) : ∀ (l : List Int) (a : Int), (l.map fun v => v + c).foldl max (a + c) = l.foldl max a + c
  | [], _ => rfl
  | y :: l, a => by
    rw [List.map_cons, List.foldl_cons, List.foldl_cons, show max (a + c) (y + c) = max a y + c by omega]
    exact most_map c l (max a y)
theorem parts_join {x y : List Int} (h : fit x y = true) : (partsR (joinR false x y)).length = (partsR x).length + (partsR y).length := by
  obtain ⟨hx, hy, _⟩ := fit_all h
  rw [joinR_yes h, partsR_yes (isP_join h), partsR_yes hx, partsR_yes hy, joinL_length]
  have es : joinL false x y = x ++ y.map (fun v => v + (x.length : Int)) := by simp [joinL]
  rw [es]
  obtain ⟨s, hs⟩ : ∃ s, s = x ++ y.map (fun v => v + (x.length : Int)) := ⟨_, rfl⟩
  rw [← hs]
  have h1 : ∀ k, k ≤ x.length → (prt s k).length = (prt x k).length := fun k => by
    induction k with
    | zero => intro _; rfl
    | succ k ih =>
      intro hk
      have e : s.take (k + 1) = x.take (k + 1) := by rw [hs, List.take_append_of_le_length hk]
      rw [prt, prt, e]
      split
      · rw [List.length_append, List.length_append, ih (by omega)]; rfl
      · exact ih (by omega)
  have h2 : ∀ j, j ≤ y.length → (prt s (x.length + j)).length = (prt x x.length).length + (prt y j).length := fun j => by
    induction j with
    | zero => intro _; rw [Nat.add_zero, h1 _ (Nat.le_refl _)]; rfl
    | succ j ih =>
      intro hj
      have e : s.take (x.length + j + 1) = x ++ (y.take (j + 1)).map (fun v => v + (x.length : Int)) := by
        rw [hs, Nat.add_assoc, List.take_append, List.take_of_length_le (by omega), Nat.add_sub_cancel_left, List.map_take]
      have em : most (s.take (x.length + j + 1)) = most (y.take (j + 1)) + (x.length : Int) := by
        rw [e]
        unfold most
        rw [List.foldl_append]
        have h3 : x.foldl max 0 = 0 + (x.length : Int) := by have := most_isP hx; unfold most at this; omega
        rw [h3]
        exact most_map _ _ 0
      rw [← Nat.add_assoc, prt, prt, em]
      by_cases hc : most (y.take (j + 1)) = (j : Int) + 1
      · rw [if_pos hc, if_pos (by rw [hc]; omega), List.length_append, List.length_append, ih (by omega)]
        simp only [List.length_singleton]; omega
      · rw [if_neg hc, if_neg (by omega)]
        exact ih (by omega)
  exact h2 y.length (Nat.le_refl _)
end Go.Proofs.Ythndeaodpjelgaa


/-
  PLAIN: intervals of a permutation, their list, closures. Nothing here speaks of the program.
-/

namespace Go.Proofs.Ythndeaodpjelgaa
set_option maxRecDepth 100000

/-- The least and the greatest number of a list. -/
def lo (l : List Int) : Int := l.foldl min 8
def hi (l : List Int) : Int := l.foldl max 1
theorem lo_nil : lo [] = 8 := rfl
theorem hi_nil : hi [] = 1 := rfl
theorem lo_snoc (l : List Int) (z : Int) : lo (l ++ [z]) = min (lo l) z := by simp [lo]
theorem hi_snoc (l : List Int) (z : Int) : hi (l ++ [z]) = max (hi l) z := by simp [hi]
theorem snoc_ind {P : List Int → Prop} (h0 : P []) (h1 : ∀ l z, P l → P (l ++ [z])) (l : List Int) : P l := by
  have : ∀ (n : Nat) (l : List Int), l.length = n → P l := fun n => by
    induction n with
    | zero => intro l hl; rw [List.eq_nil_of_length_eq_zero hl]; exact h0
    | succ n ih =>
      intro l hl
      have hne : l ≠ [] := fun e => by subst e; cases hl
      rw [← List.dropLast_concat_getLast hne]
      exact h1 _ _ (ih _ (by rw [List.length_dropLast]; omega))
  exact this _ l rfl
theorem lo_le (l : List Int) : (∀ x ∈ l, lo l ≤ x) ∧ lo l ≤ 8 := by
  induction l using snoc_ind with
  | h0 => simp [lo]
  | h1 l z ih =>
    rw [lo_snoc]
    refine ⟨fun x hx => ?_, by have := ih.2; omega⟩
    rcases List.mem_append.1 hx with hx | hx
    · have := ih.1 x hx; omega
    · rw [List.mem_singleton] at hx; subst hx; omega
theorem le_hi (l : List Int) : (∀ x ∈ l, x ≤ hi l) ∧ 1 ≤ hi l := by
  induction l using snoc_ind with
  | h0 => simp [hi]
  | h1 l z ih =>
    rw [hi_snoc]
    refine ⟨fun x hx => ?_, by have := ih.2; omega⟩
    rcases List.mem_append.1 hx with hx | hx
    · have := ih.1 x hx; omega
    · rw [List.mem_singleton] at hx; subst hx; omega
theorem le_lo {l : List Int} {m : Int} (hm : m ≤ 8) : (∀ x ∈ l, m ≤ x) → m ≤ lo l := by
  induction l using snoc_ind with
  | h0 => intro _; exact hm
  | h1 l z ih =>
    intro h
    rw [lo_snoc]
    have h1 := ih fun x hx => h x (by simp [hx])
    have h2 := h z (by simp)
    omega
theorem hi_le {l : List Int} {m : Int} (hm : 1 ≤ m) : (∀ x ∈ l, x ≤ m) → hi l ≤ m := by
  induction l using snoc_ind with
  | h0 => intro _; exact hm
  | h1 l z ih =>
    intro h
    rw [hi_snoc]
    have h1 := ih fun x hx => h x (by simp [hx])
    have h2 := h z (by simp)
    omega

/-- m numbers from place a on. -/
def seg (p : List Int) (a m : Nat) : List Int := (p.drop a).take m
theorem seg_zero (p : List Int) (a : Nat) : seg p a 0 = [] := by simp [seg]
theorem seg_snoc {p : List Int} {a k : Nat} {z : Int} (h : p[a + k]? = some z) : seg p a (k + 1) = seg p a k ++ [z] := by
  unfold seg
  rw [List.take_add_one, List.getElem?_drop, h]; rfl
theorem seg_one {p : List Int} {a : Nat} {z : Int} (h : p[a]? = some z) : seg p a 1 = [z] := by
  have := seg_snoc (p := p) (a := a) (k := 0) h
  rwa [seg_zero, List.nil_append] at this
theorem seg_length {p : List Int} {a m : Nat} (h : a + m ≤ p.length) : (seg p a m).length = m := by unfold seg; rw [List.length_take, List.length_drop]; omega
theorem mem_seg {p : List Int} {a m : Nat} {x : Int} : x ∈ seg p a m ↔ ∃ j, a ≤ j ∧ j < a + m ∧ p[j]? = some x := by
  unfold seg
  rw [List.mem_iff_getElem?]
  constructor
  · rintro ⟨i, hi⟩
    have hm : i < m := by have := (List.getElem?_eq_some_iff.1 hi).1; rw [List.length_take] at this; omega
    rw [List.getElem?_take_of_lt hm, List.getElem?_drop] at hi
    exact ⟨a + i, by omega, by omega, hi⟩
  · rintro ⟨j, h1, h2, h3⟩
    refine ⟨j - a, ?_⟩
    rw [List.getElem?_take_of_lt (by omega), List.getElem?_drop, show a + (j - a) = j by omega]
    exact h3
theorem seg_sub {p : List Int} {a m : Nat} {x : Int} (h : x ∈ seg p a m) : x ∈ p := by
  obtain ⟨j, _, _, h⟩ := mem_seg.1 h
  exact List.mem_of_getElem? h
theorem seg_nodup {p : List Int} {a m : Nat} (h : p.Nodup) : (seg p a m).Nodup := (h.sublist (List.drop_sublist _ _)).sublist (List.take_sublist _ _)
theorem seg_all (p : List Int) : seg p 0 p.length = p := by simp [seg]

/-- The numbers from x on, m of them. -/
def frm' (x : Int) (m : Nat) : List Int := (List.range m).map fun j : Nat => x + (j : Int)
theorem frm'_length (x : Int) (m : Nat) : (frm' x m).length = m := by simp [frm']
theorem mem_frm' {x y : Int} {m : Nat} : y ∈ frm' x m ↔ x ≤ y ∧ y < x + m := by
  unfold frm'
  rw [List.mem_map]
  constructor
  · rintro ⟨j, hj, rfl⟩
    have := List.mem_range.1 hj
    omega
  · rintro ⟨h1, h2⟩
    exact ⟨(y - x).toNat, List.mem_range.2 (by omega), by omega⟩
theorem frm'_nodup (x : Int) (m : Nat) : (frm' x m).Nodup := by
  unfold frm'
  rw [List.nodup_iff_pairwise_ne, List.pairwise_map]
  exact List.nodup_range.imp fun h e => h (by omega)
/-- As many different ones as there are places: every one is there. -/
theorem pigeon_all {l m : List Int} (hnd : l.Nodup) (h : ∀ x ∈ l, x ∈ m) (hl : m.length ≤ l.length) : ∀ x ∈ m, x ∈ l := fun x hx => by
  by_cases hin : x ∈ l
  · exact hin
  · have := pigeon_le (l := x :: l) (m := m) (List.nodup_cons.2 ⟨hin, hnd⟩) (fun y hy => by
      rcases List.mem_cons.1 hy with rfl | hy
      · exact hx
      · exact h y hy)
    rw [List.length_cons] at this
    omega

/-- The k + 1 places from a on are an interval. -/
def iv (p : List Int) (a k : Nat) : Bool := decide (hi (seg p a (k + 1)) - lo (seg p a (k + 1)) = (k : Int))
theorem iv_true {p : List Int} {a k : Nat} : iv p a k = true ↔ hi (seg p a (k + 1)) - lo (seg p a (k + 1)) = (k : Int) := by simp [iv]
section
variable {p : List Int} (h : isP p = true)
include h
theorem isP_at {k : Nat} (hk : k < p.length) : ∃ z, p[k]? = some z ∧ 1 ≤ z ∧ z ≤ (p.length : Int) := by
  have hz := at0_some hk
  exact ⟨_, hz, isP_range h hz⟩
theorem isP_nodup : p.Nodup := (isP_true.1 h).2.2
theorem isP_has {x : Int} (h1 : 1 ≤ x) (h2 : x ≤ (p.length : Int)) : x ∈ p := by
  have := (nodup_iff_all (isP_true.1 h).2.1).1 (isP_true.1 h).2.2 (x - 1).toNat (by omega)
  rwa [show (((x - 1).toNat : Nat) : Int) + 1 = x by omega] at this
theorem isP_same {i j : Nat} {z : Int} (hi : p[i]? = some z) (hj : p[j]? = some z) : i = j := by
  obtain ⟨h1, e1⟩ := List.getElem?_eq_some_iff.1 hi
  obtain ⟨h2, e2⟩ := List.getElem?_eq_some_iff.1 hj
  have hn := List.pairwise_iff_getElem.1 (List.nodup_iff_pairwise_ne.1 (isP_nodup h))
  by_cases h3 : i < j
  · exact absurd (e1.trans e2.symm) (hn i j h1 h2 h3)
  · by_cases h4 : j < i
    · exact absurd (e2.trans e1.symm) (hn j i h2 h1 h4)
    · omega
theorem seg_bounds (a m : Nat) : ∀ x ∈ seg p a m, 1 ≤ x ∧ x ≤ 8 := fun x hx => by
  obtain ⟨j, _, _, hj⟩ := mem_seg.1 hx
  have := isP_range h hj
  have := isP_le h
  omega
theorem lo_ge (a m : Nat) : 1 ≤ lo (seg p a m) := le_lo (by omega) fun x hx => (seg_bounds h a m x hx).1
theorem hi_le8 (a m : Nat) : hi (seg p a m) ≤ 8 := hi_le (by omega) fun x hx => (seg_bounds h a m x hx).2
/-- The numbers of a run of places lie between its least and its greatest one. -/
theorem seg_frm {a m : Nat} (hm : a + m ≤ p.length) (h0 : 0 < m) : (m : Int) ≤ hi (seg p a m) - lo (seg p a m) + 1 := by
  have h1 := pigeon_le (l := seg p a m) (m := frm' (lo (seg p a m)) (hi (seg p a m) - lo (seg p a m) + 1).toNat) (seg_nodup (isP_nodup h)) (fun x hx => mem_frm'.2 (by
    have h2 := (lo_le (seg p a m)).1 x hx
    have h3 := (le_hi (seg p a m)).1 x hx
    omega))
  rw [seg_length hm, frm'_length] at h1
  omega
theorem lo_in {a m : Nat} (hm : a + m ≤ p.length) (h0 : 0 < m) : lo (seg p a m) ∈ seg p a m := by
  have : ∀ l : List Int, (∀ x ∈ l, x ≤ 8) → l ≠ [] → lo l ∈ l := fun l => by
    induction l using snoc_ind with
    | h0 => intro _ e; exact absurd rfl e
    | h1 l z ih =>
      intro hb _
      rw [lo_snoc, List.mem_append, List.mem_singleton]
      by_cases hl : l = []
      · subst hl
        have := hb z (by simp)
        rw [lo_nil]; right; omega
      · have h1 := ih (fun x hx => hb x (by simp [hx])) hl
        by_cases hz : z < lo l
        · right; omega
        · left; rwa [show min (lo l) z = lo l by omega]
  refine this _ (fun x hx => (seg_bounds h a m x hx).2) fun e => ?_
  have := seg_length hm
  rw [e] at this
  simp at this
  omega
theorem hi_in {a m : Nat} (hm : a + m ≤ p.length) (h0 : 0 < m) : hi (seg p a m) ∈ seg p a m := by
  have : ∀ l : List Int, (∀ x ∈ l, 1 ≤ x) → l ≠ [] → hi l ∈ l := fun l => by
    induction l using snoc_ind with
    | h0 => intro _ e; exact absurd rfl e
    | h1 l z ih =>
      intro hb _
      rw [hi_snoc, List.mem_append, List.mem_singleton]
      by_cases hl : l = []
      · subst hl
        have := hb z (by simp)
        rw [hi_nil]; right; omega
      · have h1 := ih (fun x hx => hb x (by simp [hx])) hl
        by_cases hz : hi l < z
        · right; omega
        · left; rwa [show max (hi l) z = hi l by omega]
  refine this _ (fun x hx => (seg_bounds h a m x hx).1) fun e => ?_
  have := seg_length hm
  rw [e] at this
  simp at this
  omega
/-- An interval has every number between two of its own. -/
theorem iv_has {a k : Nat} (hk : a + k < p.length) (hv : iv p a k = true) {x : Int} (h1 : lo (seg p a (k + 1)) ≤ x) (h2 : x ≤ hi (seg p a (k + 1))) : x ∈ seg p a (k + 1) := by
  have e := iv_true.1 hv
  refine pigeon_all (m := frm' (lo (seg p a (k + 1))) (k + 1)) (seg_nodup (isP_nodup h)) (fun x hx => mem_frm'.2 ?_) (by rw [frm'_length, seg_length (by omega)]; exact Nat.le_refl _) x (mem_frm'.2 (by omega))
  have h2 := (lo_le (seg p a (k + 1))).1 x hx
  have h3 := (le_hi (seg p a (k + 1))).1 x hx
  omega
theorem iv_one {a : Nat} (ha : a < p.length) : iv p a 0 = true := by
  obtain ⟨z, hz, h1, h2⟩ := isP_at h ha
  have := isP_le h
  rw [iv_true, seg_one hz]
  simp only [lo, hi, List.foldl_cons, List.foldl_nil]
  omega
theorem iv_whole (h0 : 0 < p.length) : iv p 0 (p.length - 1) = true := by
  have h8 := isP_le h
  rw [iv_true, show p.length - 1 + 1 = p.length by omega, seg_all]
  have h1 := (lo_le p).1 1 (isP_has h (by omega) (by omega))
  have h2 := (le_hi p).1 (p.length : Int) (isP_has h (by omega) (by omega))
  have h3 := le_lo (l := p) (m := 1) (by omega) fun x hx => ((isP_true.1 h).2.1 x hx).1
  have h4 := hi_le (l := p) (m := (p.length : Int)) (by omega) fun x hx => ((isP_true.1 h).2.1 x hx).2
  omega
end

/-- The intervals from place a on, of at most k places; those from the first a places on. -/
def rowI (p : List Int) (a : Nat) : Nat → List (Int × Int)
  | 0 => []
  | k + 1 => rowI p a k ++ (if iv p a k then [((a : Int) + 1, (a : Int) + k + 1)] else [])
def ivK (p : List Int) : Nat → List (Int × Int)
  | 0 => []
  | a + 1 => ivK p a ++ rowI p a (p.length - a)
def ivL (p : List Int) : List (Int × Int) := ivK p p.length
theorem rowI_yes {p : List Int} {a k : Nat} (h : iv p a k = true) : rowI p a (k + 1) = rowI p a k ++ [((a : Int) + 1, (a : Int) + k + 1)] := by rw [rowI, if_pos h]
theorem rowI_no {p : List Int} {a k : Nat} (h : iv p a k = false) : rowI p a (k + 1) = rowI p a k := by rw [rowI, if_neg (by simp [h]), List.append_nil]
theorem mem_rowI {p : List Int} {a k : Nat} {x : Int × Int} : x ∈ rowI p a k ↔ ∃ j, j < k ∧ x = ((a : Int) + 1, (a : Int) + j + 1) ∧ iv p a j = true := by
  induction k with
  | zero => simp [rowI]
  | succ k ih =>
    cases hv : iv p a k with
    | true =>
      rw [rowI_yes hv, List.mem_append, ih, List.mem_singleton]
      constructor
      · rintro (⟨j, h1, h2⟩ | h1)
        · exact ⟨j, by omega, h2⟩
        · exact ⟨k, by omega, h1, hv⟩
      · rintro ⟨j, h1, h2, h3⟩
        by_cases hj : j = k
        · subst hj; exact .inr h2
        · exact .inl ⟨j, by omega, h2, h3⟩
    | false =>
      rw [rowI_no hv, ih]
      constructor
      · rintro ⟨j, h1, h2⟩; exact ⟨j, by omega, h2⟩
      · rintro ⟨j, h1, h2, h3⟩
        by_cases hj : j = k
        · subst hj; rw [hv] at h3; cases h3
        · exact ⟨j, by omega, h2, h3⟩
theorem mem_ivK {p : List Int} {m : Nat} {x : Int × Int} : x ∈ ivK p m ↔ ∃ a j, a < m ∧ a + j < p.length ∧ x = ((a : Int) + 1, (a : Int) + j + 1) ∧ iv p a j = true := by
  induction m with
  | zero => simp [ivK]
  | succ m ih =>
    rw [ivK, List.mem_append, ih, mem_rowI]
    constructor
    · rintro (⟨a, j, h1, h2⟩ | ⟨j, h1, h2⟩)
      · exact ⟨a, j, by omega, h2⟩
      · exact ⟨m, j, by omega, by omega, h2⟩
    · rintro ⟨a, j, h1, h2, h3⟩
      by_cases ha : a = m
      · subst ha; exact .inr ⟨j, by omega, h3⟩
      · exact .inl ⟨a, j, by omega, h2, h3⟩
theorem mem_ivL {p : List Int} {x : Int × Int} : x ∈ ivL p ↔ ∃ a j, a + j < p.length ∧ x = ((a : Int) + 1, (a : Int) + j + 1) ∧ iv p a j = true := by
  rw [ivL, mem_ivK]
  constructor
  · rintro ⟨a, j, h1, h2⟩; exact ⟨a, j, h2⟩
  · rintro ⟨a, j, h2⟩; exact ⟨a, j, by omega, h2⟩
theorem rowI_le (p : List Int) (a k : Nat) : (rowI p a k).length ≤ k := by
  induction k with
  | zero => simp [rowI]
  | succ k ih =>
    rw [rowI, List.length_append]
    split <;> simp <;> omega
theorem ivK_le (p : List Int) (m : Nat) : (ivK p m).length ≤ m * p.length := by
  induction m with
  | zero => simp [ivK]
  | succ m ih =>
    rw [ivK, List.length_append, Nat.add_mul]
    have := rowI_le p m (p.length - m)
    omega
theorem ivL_le {p : List Int} (h : isP p = true) : (ivL p).length ≤ 64 := by
  have h1 := ivK_le p p.length
  have h8 := isP_le h
  have : p.length * p.length ≤ 8 * 8 := Nat.mul_le_mul h8 h8
  unfold ivL; omega
/-- What impl.IsInterval asks, what spec.IsInterval asks. -/
def isIv (p : List Int) (f t : Int) : Bool := isP p && decide (1 ≤ f ∧ f ≤ t ∧ t ≤ (p.length : Int)) && iv p (f - 1).toNat (t - f).toNat
theorem isIv_mem {p : List Int} (f t : Int) : isIv p f t = (isP p && decide ((f, t) ∈ ivL p)) := by
  cases hp : isP p with
  | false => simp [isIv, hp]
  | true =>
    rw [Bool.eq_iff_iff]
    simp only [isIv, hp, Bool.true_and, Bool.and_eq_true, decide_eq_true_eq, mem_ivL]
    constructor
    · rintro ⟨⟨h1, h2, h3⟩, h4⟩
      refine ⟨(f - 1).toNat, (t - f).toNat, by omega, ?_, h4⟩
      rw [Prod.mk.injEq]; omega
    · rintro ⟨a, j, h1, h2, h3⟩
      rw [Prod.mk.injEq] at h2
      obtain ⟨rfl, rfl⟩ := h2
      refine ⟨by omega, ?_⟩
      rwa [show ((a : Int) + 1 - 1).toNat = a by omega, show ((a : Int) + j + 1 - (a + 1)).toNat = j by omega]

/-- The intervals that IntervalsOf lists. -/
def rowS (p : List Int) (a : Nat) : Nat → List (List Int)
  | 0 => []
  | k + 1 => rowS p a k ++ (if (1 ≤ k ∧ k + 1 < p.length) ∧ iv p a k = true then [[(a : Int) + 1, (a : Int) + k + 1]] else [])
def ivSK (p : List Int) : Nat → List (List Int)
  | 0 => []
  | a + 1 => ivSK p a ++ rowS p a (p.length - a)
def ivsR (p : List Int) : List (List Int) := if isP p then ivSK p p.length else []
theorem ivsR_yes {p : List Int} (h : isP p = true) : ivsR p = ivSK p p.length := by unfold ivsR; rw [if_pos h]
theorem ivsR_no {p : List Int} (h : isP p = false) : ivsR p = [] := by unfold ivsR; rw [if_neg (by simp [h])]
theorem rowS_yes {p : List Int} {a k : Nat} (h1 : 1 ≤ k ∧ k + 1 < p.length) (h : iv p a k = true) : rowS p a (k + 1) = rowS p a k ++ [[(a : Int) + 1, (a : Int) + k + 1]] := by rw [rowS, if_pos ⟨h1, h⟩]
theorem rowS_no1 {p : List Int} {a k : Nat} (h : ¬ (1 ≤ k ∧ k + 1 < p.length)) : rowS p a (k + 1) = rowS p a k := by rw [rowS, if_neg (fun e => h e.1), List.append_nil]
theorem rowS_no {p : List Int} {a k : Nat} (h : iv p a k = false) : rowS p a (k + 1) = rowS p a k := by rw [rowS, if_neg (fun e => by rw [h] at e; exact absurd e.2 (by simp)), List.append_nil]
/-- Those of more than one place and not of all places. -/
def inner (n : Int) (x : Int × Int) : Bool := decide (x.1 < x.2) && !decide (x = ((1 : Int), n))
def two (x : Int × Int) : List Int := [x.1, x.2]
def pick (n : Int) (l : List (Int × Int)) : List (List Int) := (l.filter (inner n)).map two
theorem pick_append (n : Int) (l m : List (Int × Int)) : pick n (l ++ m) = pick n l ++ pick n m := by simp [pick]
theorem pick_yes {n : Int} {l : List (Int × Int)} {x : Int × Int} (h : inner n x = true) : pick n (l ++ [x]) = pick n l ++ [two x] := by simp [pick, h]
theorem pick_no {n : Int} {l : List (Int × Int)} {x : Int × Int} (h : inner n x = false) : pick n (l ++ [x]) = pick n l := by simp [pick, h]
theorem inner_at {p : List Int} {a k : Nat} (hk : a + k < p.length) : inner p.length ((a : Int) + 1, (a : Int) + k + 1) = decide (1 ≤ k ∧ k + 1 < p.length) := by
  rw [Bool.eq_iff_iff]
  simp only [inner, Bool.and_eq_true, Bool.not_eq_true', decide_eq_true_eq, decide_eq_false_iff_not, Prod.mk.injEq]
  omega
theorem pick_row {p : List Int} {a k : Nat} (hk : a + k ≤ p.length) : pick p.length (rowI p a k) = rowS p a k := by
  induction k with
  | zero => rfl
  | succ k ih =>
    cases hv : iv p a k with
    | false => rw [rowI_no hv, rowS_no hv, ih (by omega)]
    | true =>
      have hi := inner_at (p := p) (a := a) (k := k) (by omega)
      by_cases hc : 1 ≤ k ∧ k + 1 < p.length
      · rw [rowI_yes hv, rowS_yes hc hv, pick_yes (by rw [hi]; simp [hc]), ih (by omega)]; rfl
      · rw [rowI_yes hv, rowS_no1 hc, pick_no (by rw [hi]; simp; omega), ih (by omega)]
theorem pick_K {p : List Int} {m : Nat} (hm : m ≤ p.length) : pick p.length (ivK p m) = ivSK p m := by
  induction m with
  | zero => rfl
  | succ m ih => rw [ivK, ivSK, pick_append, ih (by omega), pick_row (by omega)]
theorem pick_all (p : List Int) : pick p.length (ivL p) = ivSK p p.length := pick_K (Nat.le_refl _)
theorem pick_le (n : Int) (l : List (Int × Int)) : (pick n l).length ≤ l.length := by
  unfold pick
  rw [List.length_map]
  exact List.length_filter_le _ _
theorem tot_two (l : List (Int × Int)) : tot (l.map two) = 2 * l.length := by
  induction l with
  | nil => rfl
  | cons x l ih =>
    have e : tot ((x :: l).map two) = 2 + tot (l.map two) := by simp [tot, two]
    rw [e, ih, List.length_cons]; omega
theorem ivsR_small (p : List Int) : (ivsR p).length ≤ 64 ∧ tot (ivsR p) ≤ 128 := by
  cases h : isP p with
  | false => rw [ivsR_no h]; simp [tot]
  | true =>
    rw [ivsR_yes h, ← pick_all]
    have h1 := pick_le p.length (ivL p)
    have h2 := ivL_le h
    refine ⟨by omega, ?_⟩
    have h3 : (pick p.length (ivL p)).length = ((ivL p).filter (inner p.length)).length := by simp [pick]
    unfold pick
    rw [tot_two]
    omega
theorem mem_ivsR {p : List Int} {z : List Int} (h : z ∈ ivsR p) : isP p = true ∧ ∃ f t : Int, z = [f, t] ∧ isIv p f t = true ∧ 1 ≤ f ∧ f ≤ 8 ∧ 1 ≤ t ∧ t ≤ 8 := by
  cases hp : isP p with
  | false => rw [ivsR_no hp] at h; cases h
  | true =>
    rw [ivsR_yes hp, ← pick_all] at h
    obtain ⟨x, hx, rfl⟩ := List.mem_map.1 h
    have hm := (List.mem_filter.1 hx).1
    refine ⟨rfl, x.1, x.2, rfl, ?_, ?_⟩
    · rw [isIv_mem, hp]; simpa using hm
    · obtain ⟨a, j, h1, rfl, _⟩ := mem_ivL.1 hm
      have := isP_le hp
      simp only
      omega

/-- How many there are. -/
theorem count_row {p : List Int} (h : isP p = true) {a k : Nat} (hk : a + k ≤ p.length) : (rowI p a k).length = (rowS p a k).length + (if 1 ≤ k then 1 else 0) + (if a = 0 ∧ k = p.length ∧ 2 ≤ k then 1 else 0) := by
  induction k with
  | zero => simp [rowI, rowS]
  | succ k ih =>
    have h1 := ih (by omega)
    rw [if_neg (show ¬ (a = 0 ∧ k = p.length ∧ 2 ≤ k) by omega)] at h1
    by_cases h0 : k = 0
    · subst h0
      rw [rowI_yes (iv_one h (by omega)), rowS_no1 (by omega), List.length_append, h1]
      simp
    · rw [if_pos (show 1 ≤ k by omega)] at h1
      rw [if_pos (show 1 ≤ k + 1 by omega)]
      by_cases hw : k + 1 = p.length
      · have hv := iv_whole h (by omega)
        rw [← hw, Nat.add_sub_cancel] at hv
        have ha : a = 0 := by omega
        subst ha
        rw [rowI_yes hv, rowS_no1 (by omega), List.length_append, h1, if_pos (by omega)]
        rfl
      · rw [if_neg (show ¬ (a = 0 ∧ k + 1 = p.length ∧ 2 ≤ k + 1) by omega)]
        cases hv : iv p a k with
        | true => rw [rowI_yes hv, rowS_yes (by omega) hv, List.length_append, List.length_append, h1]; simp
        | false => rw [rowI_no hv, rowS_no hv, h1]
theorem count_K {p : List Int} (h : isP p = true) {m : Nat} (hm : m ≤ p.length) : (ivK p m).length = (ivSK p m).length + m + (if 1 ≤ m ∧ 2 ≤ p.length then 1 else 0) := by
  induction m with
  | zero => simp [ivK, ivSK]
  | succ m ih =>
    have h1 := ih (by omega)
    have h2 := count_row h (a := m) (k := p.length - m) (by omega)
    rw [if_pos (show 1 ≤ p.length - m by omega)] at h2
    rw [ivK, ivSK, List.length_append, List.length_append, h1, h2]
    by_cases h0 : m = 0
    · subst h0
      rw [if_neg (show ¬ (1 ≤ 0 ∧ 2 ≤ p.length) by omega)]
      by_cases h2 : 2 ≤ p.length
      · rw [if_pos (show _ ∧ _ ∧ _ by omega), if_pos (show _ ∧ _ by omega)]; omega
      · rw [if_neg (show ¬ (_ ∧ _ ∧ _) by omega), if_neg (show ¬ (_ ∧ _) by omega)]; omega
    · rw [if_neg (show ¬ (m = 0 ∧ p.length - m = p.length ∧ 2 ≤ p.length - m) by omega)]
      by_cases h2 : 2 ≤ p.length
      · rw [if_pos (show 1 ≤ m ∧ 2 ≤ p.length by omega), if_pos (show 1 ≤ m + 1 ∧ 2 ≤ p.length by omega)]; omega
      · rw [if_neg (show ¬ (1 ≤ m ∧ 2 ≤ p.length) by omega), if_neg (show ¬ (1 ≤ m + 1 ∧ 2 ≤ p.length) by omega)]; omega
def cntR (p : List Int) : Int := if isP p then ((ivL p).length : Int) else -1
theorem cntR_yes {p : List Int} (h : isP p = true) : cntR p = ((ivL p).length : Int) := by unfold cntR; rw [if_pos h]
theorem cntR_no {p : List Int} (h : isP p = false) : cntR p = -1 := by unfold cntR; rw [if_neg (by simp [h])]
theorem cntR_sum {p : List Int} (h : isP p = true) : cntR p = ((ivsR p).length : Int) + (p.length : Int) + (if 1 < p.length then 1 else 0) := by
  rw [cntR_yes h, ivsR_yes h, ivL, count_K h (Nat.le_refl _)]
  by_cases h2 : 2 ≤ p.length
  · rw [if_pos (show 1 ≤ p.length ∧ 2 ≤ p.length by omega), if_pos (show 1 < p.length by omega)]; omega
  · rw [if_neg (show ¬ (1 ≤ p.length ∧ 2 ≤ p.length) by omega), if_neg (show ¬ 1 < p.length by omega)]; omega
theorem isIv_no0 {p : List Int} {f t : Int} (h : isP p = false) : isIv p f t = false := by simp [isIv, h]
theorem isIv_no {p : List Int} {f t : Int} (h : ¬ (1 ≤ f ∧ f ≤ t ∧ t ≤ (p.length : Int))) : isIv p f t = false := by
  unfold isIv
  rw [show decide (1 ≤ f ∧ f ≤ t ∧ t ≤ (p.length : Int)) = false from decide_eq_false h]; simp
theorem isIv_at {p : List Int} {a k : Nat} (hp : isP p = true) (h : a + k < p.length) : isIv p ((a : Int) + 1) ((a : Int) + 1 + k) = iv p a k := by
  unfold isIv
  rw [hp, show decide (1 ≤ (a : Int) + 1 ∧ (a : Int) + 1 ≤ (a : Int) + 1 + k ∧ (a : Int) + 1 + k ≤ (p.length : Int)) = true from decide_eq_true (by omega), show ((a : Int) + 1 - 1).toNat = a by omega, show ((a : Int) + 1 + k - (a + 1)).toNat = k by omega]
  simp
def simpleP (p : List Int) : Bool := isP p && decide (0 < p.length) && decide ((ivsR p).length = 0)
end Go.Proofs.Ythndeaodpjelgaa
