/-
  Words and contracts that the laws lean on, bundled: PermM, PermF, PermP, NumM, Mem, Ints, PermS, Blk, Asc.
-/
import Derived.Below
import Derived.Laws.OwnMore
import Derived.Deep.AppendLies
import Derived.Deep.Draws
import Derived.WalkKit
import Derived.Test.YtcnmnpbipencmaaProg
import Derived.Deep.QuietTactic
import Derived.BigQuiet
import Derived.Laws.Rows
import Derived.Laws.Tables

/-
  PLAIN: permutations as lists of integers. Nothing here speaks of the program.
-/

namespace Go.Proofs.Ytcnmnpbipencmaa
set_option maxRecDepth 100000

/-- Each of the numbers 1 to n once. -/
def IsP (l : List Int) : Prop := l.length ≤ 8 ∧ (∀ x ∈ l, 1 ≤ x ∧ x ≤ (l.length : Int)) ∧ l.Nodup
instance (l : List Int) : Decidable (IsP l) := inferInstanceAs (Decidable (_ ∧ _ ∧ _))
def isP (l : List Int) : Bool := decide (IsP l)
theorem isP_true {l : List Int} : isP l = true ↔ IsP l := by unfold isP; simp
theorem isP_false {l : List Int} : isP l = false ↔ ¬ IsP l := by unfold isP; simp

theorem sub_erase {a : Int} {l m : List Int} (hnd : (a :: l).Nodup) (h : ∀ x ∈ a :: l, x ∈ m) : ∀ x ∈ l, x ∈ m.erase a := fun x hx => by
  have hne : x ≠ a := fun e => by subst e; exact (List.nodup_cons.1 hnd).1 hx
  exact (List.mem_erase_of_ne hne).2 (h x (by simp [hx]))
theorem pigeon_le : ∀ {l m : List Int}, l.Nodup → (∀ x ∈ l, x ∈ m) → l.length ≤ m.length
  | [], _, _, _ => Nat.zero_le _
  | a :: l, m, hnd, h => by
    have ha := h a (by simp)
    have h1 := pigeon_le (List.nodup_cons.1 hnd).2 (sub_erase hnd h)
    have h2 := List.length_pos_of_mem ha
    rw [List.length_erase_of_mem ha] at h1
    rw [List.length_cons]; omega
theorem pigeon_nodup : ∀ {l m : List Int}, l.Nodup → (∀ x ∈ l, x ∈ m) → m.length ≤ l.length → m.Nodup
  | [], m, _, _, hl => by
    obtain rfl := List.eq_nil_of_length_eq_zero (by simpa using hl)
    exact List.nodup_nil
  | a :: l, m, hnd, h, hl => by
    have ha := h a (by simp)
    have hm := List.length_pos_of_mem ha
    have hle : (m.erase a).length = m.length - 1 := List.length_erase_of_mem ha
    have hs := sub_erase hnd h
    have h1 := pigeon_nodup (List.nodup_cons.1 hnd).2 hs (by rw [hle]; rw [List.length_cons] at hl; omega)
    have h2 : a ∉ m.erase a := fun hin => by
      have := pigeon_le hnd (m := m.erase a) (fun x hx => by
        rcases List.mem_cons.1 hx with rfl | hx
        · exact hin
        · exact hs x hx)
      rw [hle] at this
      rw [List.length_cons] at hl this
      omega
    have hp := List.perm_cons_erase ha
    exact hp.nodup_iff.2 (List.nodup_cons.2 ⟨h2, h1⟩)

/-- The numbers 1 to n. -/
def upTo (n : Nat) : List Int := (List.range n).map fun j : Nat => (j : Int) + 1
theorem upTo_length (n : Nat) : (upTo n).length = n := by simp [upTo]
theorem mem_upTo {n : Nat} {x : Int} : x ∈ upTo n ↔ 1 ≤ x ∧ x ≤ n := by
  unfold upTo
  rw [List.mem_map]
  constructor
  · rintro ⟨j, hj, rfl⟩
    have := List.mem_range.1 hj
    omega
  · rintro ⟨h1, h2⟩
    exact ⟨(x - 1).toNat, List.mem_range.2 (by omega), by omega⟩
theorem upTo_nodup (n : Nat) : (upTo n).Nodup := by
  unfold upTo
  rw [List.nodup_iff_pairwise_ne, List.pairwise_map]
  exact List.nodup_range.imp fun h e => h (by omega)
/-- A list within 1 to n of length n: once each exactly if each is there. -/
theorem nodup_iff_all {l : List Int} (h : ∀ x ∈ l, 1 ≤ x ∧ x ≤ (l.length : Int)) : l.Nodup ↔ ∀ j : Nat, j < l.length → (j : Int) + 1 ∈ l := by
  constructor
  · intro hnd j hj
    by_cases hin : (j : Int) + 1 ∈ l
    · exact hin
    · have := pigeon_le (l := ((j : Int) + 1) :: l) (m := upTo l.length) (List.nodup_cons.2 ⟨hin, hnd⟩) (fun x hx => by
        rcases List.mem_cons.1 hx with rfl | hx
        · exact mem_upTo.2 ⟨by omega, by omega⟩
        · exact mem_upTo.2 (h x hx))
      rw [upTo_length, List.length_cons] at this
      omega
  · intro hall
    refine pigeon_nodup (upTo_nodup l.length) (fun x hx => ?_) (by rw [upTo_length]; exact Nat.le_refl _)
    obtain ⟨h1, h2⟩ := mem_upTo.1 hx
    have := hall (x - 1).toNat (by omega)
    rwa [show (((x - 1).toNat : Nat) : Int) + 1 = x by omega] at this

/-- The eight cells that impl.IsPerm fills. -/
def fnd (l : List Int) : List Int := (List.range 8).map fun j : Nat => if (j : Int) + 1 ∈ l then (j : Int) + 1 else 0
def ascL (n : Nat) : List Int := (List.range 8).map fun j : Nat => if j < n then (j : Int) + 1 else 0
theorem fnd_length (l : List Int) : (fnd l).length = 8 := by simp [fnd]
theorem ascL_length (n : Nat) : (ascL n).length = 8 := by simp [ascL]
theorem fnd_nil : fnd [] = [0, 0, 0, 0, 0, 0, 0, 0] := by decide
theorem ascL_zero : ascL 0 = [0, 0, 0, 0, 0, 0, 0, 0] := by decide
theorem ascL_step (k : Nat) : (ascL k).set k ((k : Int) + 1) = ascL (k + 1) := by
  refine List.ext_getElem (by rw [List.length_set, ascL_length, ascL_length]) fun i h1 h2 => ?_
  simp only [ascL, List.getElem_set, List.getElem_map, List.getElem_range]
  by_cases hk : k = i
  · subst hk; simp
  · simp only [hk, if_false]
    by_cases hi : i < k
    · rw [if_pos hi, if_pos (by omega)]
    · rw [if_neg hi, if_neg (by omega)]
theorem fnd_step {l : List Int} {v : Int} (h1 : 1 ≤ v) (h2 : v ≤ 8) : (fnd l).set (v - 1).toNat v = fnd (l ++ [v]) := by
  refine List.ext_getElem (by rw [List.length_set, fnd_length, fnd_length]) fun i hi1 hi2 => ?_
  simp only [fnd, List.getElem_set, List.getElem_map, List.getElem_range, List.mem_append, List.mem_singleton]
  by_cases hk : (v - 1).toNat = i
  · have e : (i : Int) + 1 = v := by omega
    rw [if_pos hk, if_pos (.inr e)]
    exact e.symm
  · have hne : ¬ ((i : Int) + 1 = v) := by omega
    rw [if_neg hk]
    simp only [hne, or_false]
theorem fnd_asc {l : List Int} (hl : l.length ≤ 8) (h : ∀ x ∈ l, 1 ≤ x ∧ x ≤ (l.length : Int)) : (fnd l == ascL l.length) = isP l := by
  rw [Bool.eq_iff_iff, beq_iff_eq, isP_true]
  unfold IsP
  rw [nodup_iff_all h]
  constructor
  · intro e
    refine ⟨hl, h, fun j hj => ?_⟩
    have := congrArg (fun m => m[j]?) e
    have hj8 : j < 8 := by omega
    simp only [fnd, ascL, List.getElem?_map, List.getElem?_range hj8, Option.map_some, if_pos hj] at this
    by_cases hin : (j : Int) + 1 ∈ l
    · exact hin
    · rw [if_neg hin] at this
      injection this with this
      omega
  · rintro ⟨_, _, hall⟩
    unfold fnd ascL
    refine List.map_congr_left fun j hj => ?_
    by_cases hlt : j < l.length
    · rw [if_pos (hall j hlt), if_pos hlt]
    · rw [if_neg hlt, if_neg]
      intro hin
      have := h _ hin
      omega

/-- What spec.IsPerm has seen of the first k numbers. -/
def Seen (l : List Int) (k : Nat) : Prop := (∀ x ∈ l.take k, 1 ≤ x ∧ x ≤ (l.length : Int)) ∧ (l.take k).Nodup
theorem Seen.zero (l : List Int) : Seen l 0 := ⟨by simp, by simp⟩
theorem Seen.step {l : List Int} {k : Nat} {z : Int} (h : Seen l k) (hz : l[k]? = some z) (h1 : 1 ≤ z ∧ z ≤ (l.length : Int)) (h2 : z ∉ l.take k) : Seen l (k + 1) := by
  unfold Seen
  rw [List.take_add_one, hz]
  simp only [Option.toList_some, List.mem_append, List.mem_singleton]
  refine ⟨fun x hx => ?_, ?_⟩
  · rcases hx with hx | rfl
    · exact h.1 x hx
    · exact h1
  · rw [List.nodup_append]
    refine ⟨h.2, by simp, fun a ha b hb e => ?_⟩
    rw [List.mem_singleton] at hb
    subst hb; subst e
    exact h2 ha
theorem Seen.isP {l : List Int} (h : Seen l l.length) (hl : l.length ≤ 8) : isP l = true := by
  unfold Seen at h
  rw [List.take_length] at h
  exact isP_true.2 ⟨hl, h⟩
theorem isP_no_range {l : List Int} {k : Nat} {z : Int} (hz : l[k]? = some z) (h : ¬ (1 ≤ z ∧ z ≤ (l.length : Int))) : isP l = false :=
  isP_false.2 fun hp => h (hp.2.1 z (List.mem_of_getElem? hz))
theorem isP_no_twice {l : List Int} {k : Nat} {z : Int} (hz : l[k]? = some z) (h : z ∈ l.take k) : isP l = false :=
  isP_false.2 fun hp => by
    have hnd : (l.take (k + 1)).Nodup := hp.2.2.sublist (List.take_sublist _ _)
    rw [List.take_add_one, hz] at hnd
    simp only [Option.toList_some] at hnd
    exact (List.nodup_append.1 hnd).2.2 z h z (by simp) rfl
theorem isP_long {l : List Int} (h : 8 < l.length) : isP l = false := isP_false.2 fun hp => by have := hp.1; omega
theorem take_snoc_i {l : List Int} {k : Nat} {z : Int} (h : l[k]? = some z) : l.take (k + 1) = l.take k ++ [z] := by rw [List.take_add_one, h]; rfl
end Go.Proofs.Ytcnmnpbipencmaa


/-
  PLAIN: the lists that the functions of chapter 2 give. Nothing here speaks of the program.
-/

namespace Go.Proofs.Ytcnmnpbipencmaa
set_option maxRecDepth 100000

/-- Below b, or not: the value at a place, 0 where there is none. -/
def at0 (l : List Int) (k : Nat) : Int := l.getD k 0
theorem at0_of {l : List Int} {k : Nat} {z : Int} (h : l[k]? = some z) : at0 l k = z := by unfold at0; rw [List.getD_eq_getElem?_getD, h]; rfl
theorem at0_some {l : List Int} {k : Nat} (h : k < l.length) : l[k]? = some (at0 l k) := by
  unfold at0
  rw [List.getD_eq_getElem?_getD, List.getElem?_eq_getElem h]; rfl

/-- The inverse, filled in k rounds. -/
def invFill (l : List Int) : Nat → List Int
  | 0 => List.replicate l.length 0
  | k + 1 => (invFill l k).set ((at0 l k).toNat - 1) ((k : Int) + 1)
theorem invFill_length (l : List Int) : ∀ k, (invFill l k).length = l.length
  | 0 => by simp [invFill]
  | k + 1 => by rw [invFill, List.length_set, invFill_length l k]
theorem invFill_step {l : List Int} {k : Nat} {z : Int} (h : l[k]? = some z) : (invFill l k).set (z.toNat - 1) ((k : Int) + 1) = invFill l (k + 1) := by rw [invFill, at0_of h]
def invR (l : List Int) : List Int := if isP l then invFill l l.length else []
theorem invR_yes {l : List Int} (h : isP l = true) : invR l = invFill l l.length := by unfold invR; rw [if_pos h]
theorem invR_no {l : List Int} (h : isP l = false) : invR l = [] := by unfold invR; rw [if_neg (by simp [h])]
theorem isP_le {l : List Int} (h : isP l = true) : l.length ≤ 8 := (isP_true.1 h).1
theorem isP_range {l : List Int} (h : isP l = true) {k : Nat} {z : Int} (hz : l[k]? = some z) : 1 ≤ z ∧ z ≤ (l.length : Int) := (isP_true.1 h).2.1 z (List.mem_of_getElem? hz)
theorem invR_le (l : List Int) : (invR l).length ≤ 8 := by
  cases h : isP l with
  | true => rw [invR_yes h, invFill_length]; exact isP_le h
  | false => rw [invR_no h]; simp

/-- The composition, its first k values. -/
def compL (p q : List Int) (k : Nat) : List Int := (List.range k).map fun j => at0 p ((at0 q j).toNat - 1)
theorem compL_length (p q : List Int) (k : Nat) : (compL p q k).length = k := by simp [compL]
theorem compL_zero (p q : List Int) : compL p q 0 = [] := rfl
theorem compL_step {p q : List Int} {k : Nat} {z y : Int} (hz : q[k]? = some z) (hy : p[z.toNat - 1]? = some y) : compL p q (k + 1) = compL p q k ++ [y] := by
  unfold compL
  rw [List.range_succ, List.map_append, List.map_singleton, at0_of hz, at0_of hy]
theorem compL_at {p q : List Int} {k n : Nat} {z y : Int} (h : k < n) (hz : q[k]? = some z) (hy : p[z.toNat - 1]? = some y) : (compL p q n)[k]? = some y := by
  unfold compL
  rw [List.getElem?_map, List.getElem?_range h, Option.map_some, at0_of hz, at0_of hy]
def compOK (p q : List Int) : Bool := isP p && isP q && decide (p.length = q.length)
def compR (p q : List Int) : List Int := if compOK p q then compL p q q.length else []
theorem compR_yes {p q : List Int} (h : compOK p q = true) : compR p q = compL p q q.length := by unfold compR; rw [if_pos h]
theorem compR_no {p q : List Int} (h : compOK p q = false) : compR p q = [] := by unfold compR; rw [if_neg (by simp [h])]
theorem compOK_yes {p q : List Int} (h1 : isP p = true) (h2 : isP q = true) (h3 : p.length = q.length) : compOK p q = true := by simp [compOK, h1, h2, h3]
theorem compOK_no1 {p q : List Int} (h : isP p = false) : compOK p q = false := by simp [compOK, h]
theorem compOK_no2 {p q : List Int} (h : isP q = false) : compOK p q = false := by simp [compOK, h]
theorem compOK_no3 {p q : List Int} (h : p.length ≠ q.length) : compOK p q = false := by simp [compOK, h]
theorem compR_le (p q : List Int) : (compR p q).length ≤ 8 := by
  cases h : compOK p q with
  | true =>
    rw [compR_yes h, compL_length]
    simp only [compOK, Bool.and_eq_true, decide_eq_true_eq] at h
    exact isP_le h.1.2
  | false => rw [compR_no h]; simp

/-- The identity. -/
def idR (n : Int) : List Int := if 1 ≤ n ∧ n ≤ 8 then upTo n.toNat else []
theorem idR_yes {n : Int} (h1 : 1 ≤ n) (h2 : n ≤ 8) : idR n = upTo n.toNat := by unfold idR; rw [if_pos ⟨h1, h2⟩]
theorem idR_no {n : Int} (h : ¬ (1 ≤ n ∧ n ≤ 8)) : idR n = [] := by unfold idR; rw [if_neg h]
theorem idR_le (n : Int) : (idR n).length ≤ 8 := by
  unfold idR
  by_cases h : 1 ≤ n ∧ n ≤ 8
  · rw [if_pos h, upTo_length]; omega
  · rw [if_neg h]; simp
theorem upTo_step (k : Nat) : upTo (k + 1) = upTo k ++ [(k : Int) + 1] := by unfold upTo; rw [List.range_succ, List.map_append, List.map_singleton]
theorem upTo_asc {n : Nat} (h : n ≤ 8) : (ascL n).take n = upTo n := by
  refine List.ext_getElem (by rw [List.length_take, ascL_length, upTo_length]; omega) fun i h1 h2 => ?_
  rw [upTo_length] at h2
  simp only [ascL, upTo, List.getElem_take, List.getElem_map, List.getElem_range, h2, if_true]
end Go.Proofs.Ytcnmnpbipencmaa


/-
  PLAIN: the pattern of a list. Nothing here speaks of the program.
-/

namespace Go.Proofs.Ytcnmnpbipencmaa
set_option maxRecDepth 100000

/-- How many are less than v. -/
def cnt (l : List Int) (v : Int) : Nat := (l.filter fun x => decide (x < v)).length
theorem cnt_nil (v : Int) : cnt [] v = 0 := rfl
theorem cnt_cons (x : Int) (l : List Int) (v : Int) : cnt (x :: l) v = (if x < v then 1 else 0) + cnt l v := by
  unfold cnt
  rw [List.filter_cons]
  by_cases h : x < v
  · simp [h]; omega
  · simp [h]
theorem cnt_snoc (l : List Int) (x v : Int) : cnt (l ++ [x]) v = cnt l v + if x < v then 1 else 0 := by
  unfold cnt
  rw [List.filter_append, List.length_append, List.filter_cons]
  by_cases h : x < v <;> simp [h]
theorem cnt_le (l : List Int) (v : Int) : cnt l v ≤ l.length := by unfold cnt; exact List.length_filter_le _ _
theorem cnt_mono : ∀ (l : List Int) {v v' : Int}, v ≤ v' → cnt l v ≤ cnt l v'
  | [], _, _, _ => Nat.le_refl _
  | x :: l, v, v', h => by
    have := cnt_mono l h
    rw [cnt_cons, cnt_cons]
    by_cases h1 : x < v
    · rw [if_pos h1, if_pos (by omega)]; omega
    · rw [if_neg h1]; omega
theorem cnt_lt : ∀ {l : List Int} {v v' : Int}, v ∈ l → v < v' → cnt l v + 1 ≤ cnt l v'
  | x :: l, v, v', hm, h => by
    rw [cnt_cons, cnt_cons]
    rcases List.mem_cons.1 hm with rfl | hm
    · have := cnt_mono l (v := v) (v' := v') (by omega)
      rw [if_neg (by omega), if_pos h]; omega
    · have := cnt_lt hm h
      by_cases h1 : x < v
      · rw [if_pos h1, if_pos (by omega)]; omega
      · rw [if_neg h1]; omega
theorem cnt_mem : ∀ {l : List Int} {v : Int}, v ∈ l → cnt l v + 1 ≤ l.length
  | x :: l, v, hm => by
    rw [cnt_cons, List.length_cons]
    rcases List.mem_cons.1 hm with rfl | hm
    · have := cnt_le l v
      rw [if_neg (by omega)]; omega
    · have := cnt_mem hm
      by_cases h1 : x < v
      · rw [if_pos h1]; omega
      · rw [if_neg h1]; omega
def patL (l : List Int) : List Int := l.map fun v => 1 + (cnt l v : Int)
theorem patL_length (l : List Int) : (patL l).length = l.length := by simp [patL]
theorem patL_at {l : List Int} {k : Nat} {z : Int} (h : l[k]? = some z) : (patL l)[k]? = some (1 + (cnt l z : Int)) := by unfold patL; rw [List.getElem?_map, h]; rfl
theorem patL_take {l : List Int} {k : Nat} {z : Int} (h : l[k]? = some z) : (patL l).take (k + 1) = (patL l).take k ++ [1 + (cnt l z : Int)] := take_snoc_i (patL_at h)
theorem patL_range {l : List Int} : ∀ x ∈ patL l, 1 ≤ x ∧ x ≤ (l.length : Int) := by
  intro x hx
  unfold patL at hx
  obtain ⟨v, hv, rfl⟩ := List.mem_map.1 hx
  have := cnt_mem hv
  omega
def patOK (l : List Int) : Bool := decide (l.length ≤ 8 ∧ l.Nodup)
theorem patOK_no8 {l : List Int} (h : 8 < l.length) : patOK l = false := by unfold patOK; simp; omega
theorem patOK_yes {l : List Int} (h : l.length ≤ 8) (h' : l.Nodup) : patOK l = true := by unfold patOK; simp [h, h']
theorem patOK_twice {l : List Int} {k : Nat} {z : Int} (hz : l[k]? = some z) (h : z ∈ l.take k) : patOK l = false := by
  unfold patOK
  rw [decide_eq_false_iff_not]
  rintro ⟨_, hn⟩
  have hnd : (l.take (k + 1)).Nodup := hn.sublist (List.take_sublist _ _)
  rw [take_snoc_i hz] at hnd
  exact (List.nodup_append.1 hnd).2.2 z h z (by simp) rfl
theorem nodup_step {l : List Int} {k : Nat} {z : Int} (hz : l[k]? = some z) (h : z ∉ l.take k) (hn : (l.take k).Nodup) : (l.take (k + 1)).Nodup := by
  rw [take_snoc_i hz, List.nodup_append]
  refine ⟨hn, by simp, fun a ha b hb e => ?_⟩
  rw [List.mem_singleton] at hb
  subst hb; subst e
  exact h ha
theorem nodup_of_map {f : Int → Int} : ∀ {l : List Int}, (l.map f).Nodup → l.Nodup
  | [], _ => List.nodup_nil
  | a :: l, h => by
    rw [List.map_cons, List.nodup_cons] at h
    exact List.nodup_cons.2 ⟨fun hm => h.1 (List.mem_map.2 ⟨a, hm, rfl⟩), nodup_of_map h.2⟩
theorem nodup_map {f : Int → Int} : ∀ {l : List Int}, (∀ a ∈ l, ∀ b ∈ l, f a = f b → a = b) → l.Nodup → (l.map f).Nodup
  | [], _, _ => List.nodup_nil
  | a :: l, hf, h => by
    rw [List.nodup_cons] at h
    rw [List.map_cons, List.nodup_cons]
    refine ⟨fun hm => ?_, nodup_map (fun x hx y hy => hf x (by simp [hx]) y (by simp [hy])) h.2⟩
    obtain ⟨b, hb, e⟩ := List.mem_map.1 hm
    have := hf b (by simp [hb]) a (by simp) e
    subst this
    exact h.1 hb
theorem isP_pat (l : List Int) : isP (patL l) = patOK l := by
  rw [Bool.eq_iff_iff, isP_true]
  unfold patOK IsP
  rw [decide_eq_true_eq, patL_length]
  constructor
  · rintro ⟨h1, _, h3⟩
    exact ⟨h1, nodup_of_map h3⟩
  · rintro ⟨h1, h2⟩
    refine ⟨h1, patL_range, nodup_map (fun a ha b hb e => ?_) h2⟩
    rcases Int.lt_trichotomy a b with h | h | h
    · have := cnt_lt ha h; omega
    · exact h
    · have := cnt_lt hb h; omega
def patR (l : List Int) : List Int := if patOK l then patL l else []
theorem patR_yes {l : List Int} (h : patOK l = true) : patR l = patL l := by unfold patR; rw [if_pos h]
theorem patR_no {l : List Int} (h : patOK l = false) : patR l = [] := by unfold patR; rw [if_neg (by simp [h])]
theorem patR_le (l : List Int) : (patR l).length ≤ 8 := by
  cases h : patOK l with
  | true =>
    rw [patR_yes h, patL_length]
    unfold patOK at h
    simp at h
    exact h.1
  | false => rw [patR_no h]; simp
end Go.Proofs.Ytcnmnpbipencmaa


/-
  PLAIN: the numbers of a permutation. Nothing here speaks of the program.
-/

namespace Go.Proofs.Ytcnmnpbipencmaa
set_option maxRecDepth 100000

theorem beq_dec (a b : Int) : (a == b) = decide (a = b) := by
  by_cases h : a = b
  · rw [decide_eq_true h, h]; simp
  · rw [decide_eq_false h]; simp [h]
/-- The places (counted from 1) among the first k that fit. -/
def plK (g : Nat → Bool) : Nat → List Int
  | 0 => []
  | k + 1 => if g k then plK g k ++ [(k : Int) + 1] else plK g k
theorem plK_yes {g : Nat → Bool} {k : Nat} (h : g k = true) : plK g (k + 1) = plK g k ++ [(k : Int) + 1] := by rw [plK, if_pos h]
theorem plK_no {g : Nat → Bool} {k : Nat} (h : g k = false) : plK g (k + 1) = plK g k := by rw [plK, if_neg (by simp [h])]
theorem plK_le (g : Nat → Bool) : ∀ k, (plK g k).length ≤ k
  | 0 => Nat.le_refl _
  | k + 1 => by
    have := plK_le g k
    cases h : g k with
    | true => rw [plK_yes h, List.length_append, List.length_singleton]; omega
    | false => rw [plK_no h]; omega
theorem plK_range (g : Nat → Bool) : ∀ k, ∀ z ∈ plK g k, 1 ≤ z ∧ z ≤ (k : Int)
  | 0, z, hz => by cases hz
  | k + 1, z, hz => by
    have ih := plK_range g k
    cases h : g k with
    | true =>
      rw [plK_yes h, List.mem_append, List.mem_singleton] at hz
      rcases hz with hz | rfl
      · have := ih z hz; omega
      · omega
    | false =>
      rw [plK_no h] at hz
      have := ih z hz; omega
theorem plK_congr {g g' : Nat → Bool} : ∀ k, (∀ j, j < k → g j = g' j) → plK g k = plK g' k
  | 0, _ => rfl
  | k + 1, h => by rw [plK, plK, plK_congr k (fun j hj => h j (by omega)), h k (by omega)]
theorem plK_len_yes {g : Nat → Bool} {k : Nat} (h : g k = true) : (plK g (k + 1)).length = (plK g k).length + 1 := by rw [plK_yes h, List.length_append, List.length_singleton]
theorem plK_len_no {g : Nat → Bool} {k : Nat} (h : g k = false) : (plK g (k + 1)).length = (plK g k).length := by rw [plK_no h]

/-- What fits where. -/
def gD (p : List Int) (j : Nat) : Bool := decide (j + 1 < p.length) && decide (at0 p (j + 1) < at0 p j)
def gR (p : List Int) (j : Nat) : Bool := decide (cnt (p.take (j + 1)) (at0 p j) = j)
def gL (p : List Int) (j : Nat) : Bool := decide (cnt (p.take (j + 1)) (at0 p j) = 0)
def gF (p : List Int) (j : Nat) : Bool := decide (at0 p j = (j : Int) + 1)
def gU (p : List Int) (j : Nat) : Bool := decide ((j : Int) + 1 < at0 p j)
def plR (g : Nat → Bool) (p : List Int) : List Int := if isP p then plK g p.length else []
def cnR (g : Nat → Bool) (p : List Int) : Int := if isP p then ((plK g p.length).length : Nat) else -1
theorem plR_yes {g : Nat → Bool} {p : List Int} (h : isP p = true) : plR g p = plK g p.length := by unfold plR; rw [if_pos h]
theorem plR_no {g : Nat → Bool} {p : List Int} (h : isP p = false) : plR g p = [] := by unfold plR; rw [if_neg (by simp [h])]
theorem cnR_yes {g : Nat → Bool} {p : List Int} (h : isP p = true) : cnR g p = ((plK g p.length).length : Nat) := by unfold cnR; rw [if_pos h]
theorem cnR_no {g : Nat → Bool} {p : List Int} (h : isP p = false) : cnR g p = -1 := by unfold cnR; rw [if_neg (by simp [h])]
theorem plR_le (g : Nat → Bool) (p : List Int) : (plR g p).length ≤ 8 := by
  cases h : isP p with
  | true => rw [plR_yes h]; have := plK_le g p.length; have := isP_le h; omega
  | false => rw [plR_no h]; simp
theorem plR_range (g : Nat → Bool) (p : List Int) : ∀ z ∈ plR g p, 1 ≤ z ∧ z ≤ 8 := by
  intro z hz
  cases h : isP p with
  | true => rw [plR_yes h] at hz; have := plK_range g _ z hz; have := isP_le h; omega
  | false => rw [plR_no h] at hz; cases hz

/-- Descents: the last place is none. -/
theorem gD_last {p : List Int} {k : Nat} (h : p.length = k + 1) : plK (gD p) (k + 1) = plK (gD p) k := plK_no (by unfold gD; rw [decide_eq_false (by omega)]; rfl)
theorem gD_at {p : List Int} {k : Nat} {x y : Int} (hx : p[k]? = some x) (hy : p[k + 1]? = some y) : gD p k = decide (y < x) := by
  unfold gD
  rw [at0_of hx, at0_of hy, decide_eq_true (List.getElem?_eq_some_iff.1 hy).1, Bool.true_and]

/-- How many are greater than v. -/
def gtr (l : List Int) (v : Int) : Nat := (l.filter fun x => decide (v < x)).length
theorem gtr_snoc (l : List Int) (x v : Int) : gtr (l ++ [x]) v = gtr l v + if v < x then 1 else 0 := by
  unfold gtr
  rw [List.filter_append, List.length_append, List.filter_cons]
  by_cases h : v < x <;> simp [h]
theorem gtr_at {l : List Int} {k : Nat} {x : Int} (v : Int) (h : l[k]? = some x) : gtr (l.take (k + 1)) v = gtr (l.take k) v + if v < x then 1 else 0 := by rw [take_snoc_i h, gtr_snoc]
theorem gtr_le (l : List Int) (v : Int) : gtr l v ≤ l.length := by unfold gtr; exact List.length_filter_le _ _
theorem cnt_gtr : ∀ {l : List Int} {v : Int}, v ∉ l → cnt l v + gtr l v = l.length
  | [], _, _ => rfl
  | x :: l, v, h => by
    have h1 : v ≠ x := fun e => h (by simp [e])
    have ih := cnt_gtr (l := l) (v := v) (fun e => h (by simp [e]))
    rw [cnt_cons, List.length_cons]
    unfold gtr at ih ⊢
    rw [List.filter_cons]
    by_cases hx : x < v
    · rw [if_pos hx, if_neg (by simp; omega)]; omega
    · rw [if_neg hx, if_pos (by simp; omega), List.length_cons]; omega
def invK (p : List Int) : Nat → Nat
  | 0 => 0
  | k + 1 => invK p k + gtr (p.take k) (at0 p k)
theorem invK_le (p : List Int) : ∀ k, k ≤ 8 → invK p k ≤ 8 * k
  | 0, _ => Nat.le_refl _
  | k + 1, h => by
    have := invK_le p k (by omega)
    have h1 := gtr_le (p.take k) (at0 p k)
    rw [List.length_take] at h1
    rw [invK]; omega
theorem invK_at {p : List Int} {k : Nat} {v : Int} (h : p[k]? = some v) : invK p (k + 1) = invK p k + gtr (p.take k) v := by rw [invK, at0_of h]
theorem isP_fresh {p : List Int} (hp : isP p = true) {k : Nat} {v : Int} (h : p[k]? = some v) : v ∉ p.take k := fun hv => by
  have := isP_no_twice h hv
  rw [hp] at this; cases this
/-- The step as impl counts it. -/
theorem invK_less {p : List Int} (hp : isP p = true) {k : Nat} {v : Int} (h : p[k]? = some v) : invK p (k + 1) + cnt (p.take k) v = invK p k + k := by
  have h1 := cnt_gtr (isP_fresh hp h)
  have h2 := (List.getElem?_eq_some_iff.1 h).1
  rw [List.length_take, Nat.min_eq_left (by omega)] at h1
  rw [invK_at h]; omega
def invsR (p : List Int) : Int := if isP p then (invK p p.length : Nat) else -1
theorem invsR_yes {p : List Int} (h : isP p = true) : invsR p = (invK p p.length : Nat) := by unfold invsR; rw [if_pos h]
theorem invsR_no {p : List Int} (h : isP p = false) : invsR p = -1 := by unfold invsR; rw [if_neg (by simp [h])]

/-- The sum of the first k. -/
def sumK (l : List Int) : Nat → Int
  | 0 => 0
  | k + 1 => sumK l k + at0 l k
theorem sumK_at {l : List Int} {k : Nat} {v : Int} (h : l[k]? = some v) : sumK l (k + 1) = sumK l k + v := by rw [sumK, at0_of h]
theorem sumK_le {l : List Int} (h : ∀ z ∈ l, 1 ≤ z ∧ z ≤ 8) : ∀ k, k ≤ l.length → 0 ≤ sumK l k ∧ sumK l k ≤ 8 * (k : Int)
  | 0, _ => ⟨Int.le_refl _, Int.le_refl _⟩
  | k + 1, hk => by
    have ih := sumK_le h k (by omega)
    have h1 := h _ (List.mem_of_getElem? (at0_some (l := l) (k := k) (by omega)))
    rw [sumK]; omega
def majR (p : List Int) : Int := if isP p then sumK (plR (gD p) p) (plR (gD p) p).length else -1
theorem majR_yes {p : List Int} (h : isP p = true) : majR p = sumK (plR (gD p) p) (plR (gD p) p).length := by unfold majR; rw [if_pos h]
theorem majR_no {p : List Int} (h : isP p = false) : majR p = -1 := by unfold majR; rw [if_neg (by simp [h])]

/-- The greatest so far, the least so far. -/
def RecS (p : List Int) (k : Nat) (m : Int) : Prop := (∀ x ∈ p.take k, x ≤ m) ∧ (m ∈ p.take k ∨ (k = 0 ∧ m = 0))
def LowS (p : List Int) (k : Nat) (m : Int) : Prop := (∀ x ∈ p.take k, m ≤ x) ∧ (m ∈ p.take k ∨ (k = 0 ∧ m = (p.length : Int) + 1))
theorem RecS.zero (p : List Int) : RecS p 0 0 := ⟨by simp, .inr ⟨rfl, rfl⟩⟩
theorem LowS.zero (p : List Int) : LowS p 0 ((p.length : Int) + 1) := ⟨by simp, .inr ⟨rfl, rfl⟩⟩
theorem cnt_all {l : List Int} {v : Int} : cnt l v = l.length ↔ ∀ x ∈ l, x < v := by
  unfold cnt
  rw [List.length_filter_eq_length_iff]
  simp
theorem cnt_none {l : List Int} {v : Int} : cnt l v = 0 ↔ ∀ x ∈ l, v ≤ x := by
  unfold cnt
  rw [List.length_eq_zero_iff, List.filter_eq_nil_iff]
  simp
theorem cnt_self {p : List Int} {k : Nat} {v : Int} (h : p[k]? = some v) : cnt (p.take (k + 1)) (at0 p k) = cnt (p.take k) v := by
  rw [at0_of h, take_snoc_i h, cnt_snoc, if_neg (by omega)]; rfl
theorem RecS.yes {p : List Int} {k : Nat} {m v : Int} (hs : RecS p k m) (h : p[k]? = some v) (hv : m < v) : gR p k = true ∧ RecS p (k + 1) v := by
  have hl := (List.getElem?_eq_some_iff.1 h).1
  refine ⟨?_, ?_, .inl (by rw [take_snoc_i h]; simp)⟩
  · unfold gR
    rw [cnt_self h, decide_eq_true_eq]
    have h1 : cnt (p.take k) v = (p.take k).length := cnt_all.2 fun x hx => by have := hs.1 x hx; omega
    rw [h1, List.length_take]; omega
  · intro x hx
    rw [take_snoc_i h, List.mem_append, List.mem_singleton] at hx
    rcases hx with hx | rfl
    · have := hs.1 x hx; omega
    · omega
theorem RecS.no {p : List Int} (hp : isP p = true) {k : Nat} {m v : Int} (hs : RecS p k m) (h : p[k]? = some v) (hv : ¬ m < v) : gR p k = false ∧ RecS p (k + 1) m := by
  have hl := (List.getElem?_eq_some_iff.1 h).1
  have hm : m ∈ p.take k := by
    rcases hs.2 with h1 | ⟨_, h1⟩
    · exact h1
    · have := isP_range hp h; omega
  refine ⟨?_, ?_, .inl (by rw [take_snoc_i h]; simp [hm])⟩
  · unfold gR
    rw [cnt_self h, decide_eq_false_iff_not]
    intro e
    have h1 : cnt (p.take k) v = (p.take k).length := by rw [e, List.length_take]; omega
    exact hv (cnt_all.1 h1 m hm)
  · intro x hx
    rw [take_snoc_i h, List.mem_append, List.mem_singleton] at hx
    rcases hx with hx | rfl
    · exact hs.1 x hx
    · omega
theorem LowS.yes {p : List Int} {k : Nat} {m v : Int} (hs : LowS p k m) (h : p[k]? = some v) (hv : v < m) : gL p k = true ∧ LowS p (k + 1) v := by
  refine ⟨?_, ?_, .inl (by rw [take_snoc_i h]; simp)⟩
  · unfold gL
    rw [cnt_self h, decide_eq_true_eq]
    exact cnt_none.2 fun x hx => by have := hs.1 x hx; omega
  · intro x hx
    rw [take_snoc_i h, List.mem_append, List.mem_singleton] at hx
    rcases hx with hx | rfl
    · have := hs.1 x hx; omega
    · omega
theorem LowS.no {p : List Int} (hp : isP p = true) {k : Nat} {m v : Int} (hs : LowS p k m) (h : p[k]? = some v) (hv : ¬ v < m) : gL p k = false ∧ LowS p (k + 1) m := by
  have hm : m ∈ p.take k := by
    rcases hs.2 with h1 | ⟨_, h1⟩
    · exact h1
    · have := isP_range hp h; omega
  refine ⟨?_, ?_, .inl (by rw [take_snoc_i h]; simp [hm])⟩
  · unfold gL
    rw [cnt_self h, decide_eq_false_iff_not]
    intro e
    have h1 := cnt_none.1 e m hm
    have h2 : v ≠ m := fun e => isP_fresh hp h (by rw [e]; exact hm)
    omega
  · intro x hx
    rw [take_snoc_i h, List.mem_append, List.mem_singleton] at hx
    rcases hx with hx | rfl
    · exact hs.1 x hx
    · omega
end Go.Proofs.Ytcnmnpbipencmaa


/-
  WORDS FOR MEMORY: a slice that reads as a list of values (nil let in), and what keeps it; a row of the call's own. Plain lemmas: nothing here speaks of the program.
-/

namespace Go.Proofs.Ytcnmnpbipencmaa
set_option maxRecDepth 100000
open Go.RowKit

theorem block_of_add (a : Addr) (n : Nat) : (a.add n).block = a.block := by unfold Addr.add; split <;> rfl
theorem add_of_add (a : Addr) (i j : Nat) : (a.add i).add j = a.add (i + j) := by
  unfold Addr.add
  by_cases hi : i = 0 <;> by_cases hj : j = 0 <;> simp [hi, hj, Nat.add_assoc]

/-- The slice value '.slice A n c' holds the one-cell values xs, below block B. -/
def Reads (w : World) (B : Nat) (A : Option Addr) (n : Nat) (xs : List Value) : Prop :=
  xs.length = n ∧ (0 < n → ∃ ad, A = some ad ∧ ad.block < B ∧ ∀ j u, xs[j]? = some u → w.cell? (ad.add j) = some u)

section
variable {w w' : World} {B B' n : Nat} {A : Option Addr} {xs : List Value}
theorem Reads.none_ : Reads w B A 0 [] := ⟨rfl, fun h => absurd h (by omega)⟩
theorem Reads.at_ {k : Nat} (h : Reads w B A n xs) (hk : k < n) : ∃ ad u, A = some ad ∧ ad.block < B ∧ xs[k]? = some u ∧ w.cell? (ad.add k) = some u := by
  obtain ⟨ad, e, hb, hc⟩ := h.2 (by omega)
  have hl : k < xs.length := by have := h.1; omega
  exact ⟨ad, xs[k], e, hb, List.getElem?_eq_getElem hl, hc k _ (List.getElem?_eq_getElem hl)⟩
theorem Reads.keep (h : Reads w B A n xs) (hk : ∀ p : Addr, p.block < B → w'.cell? p = w.cell? p) : Reads w' B A n xs :=
  ⟨h.1, fun hn => by
    obtain ⟨ad, e, hb, hc⟩ := h.2 hn
    exact ⟨ad, e, hb, fun j u hu => (hk _ (by rw [block_of_add]; exact hb)).trans (hc j u hu)⟩⟩
theorem Reads.more (h : Reads w B A n xs) (hB : B ≤ B') : Reads w B' A n xs :=
  ⟨h.1, fun hn => by
    obtain ⟨ad, e, hb, hc⟩ := h.2 hn
    exact ⟨ad, e, by omega, hc⟩⟩
theorem Reads.below (h : Reads w B A n xs) (hb : Below B w w') : Reads w' B A n xs := h.keep fun _ hp => hb.cell hp
theorem Reads.drew (h : Reads w B A n xs) : Reads w.drew B A n xs := h
theorem Reads.drewN (h : Reads w B A n xs) (k : Nat) : Reads (w.drewN k) B A n xs := h
theorem Reads.alloc (h : Reads w B A n xs) (hB : B ≤ w.heap.size) (o : Obj) : Reads (w.alloc o) B A n xs := h.keep fun p hp => World.cell?_alloc_lt w o p (by omega)
theorem Reads.setCell (h : Reads w B A n xs) {p : Addr} (hB : B ≤ p.block) (u : Value) : Reads (w.setCell p u) B A n xs :=
  h.keep fun q hq => World.cell?_setCell_other w p q u (fun e => by subst e; omega)
theorem Reads.grown (h : Reads w B A n xs) {row : Option Nat} (hg : w.grownBy w' row) (hB : B ≤ w.heap.size) (hr : ∀ g, row = some g → B ≤ g) : Reads w' B A n xs :=
  h.keep fun p hp => World.cell?_of_block (hg.block p.block (by omega) (fun e => by have := hr _ e.symm; omega))
theorem Reads.of_own {base : Nat} {e : TypeId} {v : Value} (h : w.ownsRow base e 1 v n xs) : ∃ A c, v = .slice A n c ∧ Reads w w.heap.size A n xs := by
  rcases h.2 with ⟨rfl, rfl⟩ | ⟨g, cap, cur, rfl, hb, hg, hnc, hcm, hsz, htake⟩
  · exact ⟨none, 0, rfl, by simpa using h.1, fun hn => by omega⟩
  · refine ⟨_, _, rfl, by simpa using h.1, fun _ => ⟨_, rfl, (Array.getElem?_eq_some_iff.1 hg).1, fun j u hu => h.cells (g := g) rfl j u hu⟩⟩
theorem Reads.of_own_at {base : Nat} {e : TypeId} {c : Nat} (h : w.ownsRow base e 1 (.slice A n c) n xs) : Reads w w.heap.size A n xs := by
  obtain ⟨A', c', hv, hr⟩ := Reads.of_own h
  injection hv with h1 h2 h3
  subst h1
  exact hr
end

/-- Two calls, one behind the other: what lay before the first stands behind the second. -/
theorem below_after {w0 w1 w2 : World} (h1 : Below w0.heap.size w0 w1) (h2 : Below w1.heap.size w1 w2) : Below w0.heap.size w0 w2 := h1.trans (h2.mono h1.size)

/-- 'out = append(out, x)', x one cell: out a row of the call's own. -/
theorem wpList_append_one {P : Program} {ops : Array Oper} {rest : List Oper} {o : Oper} {a : Act} {W : World} {Q : Exit → Act → World → Prop} (hgd : o.guard = none) (sl x : Operand) (t : TypeId)
    (ho : o.op = .call { callee := .builtin .append, args := #[sl, x], argTypes := #[t, t] })
    (base : Nat) (e : TypeId) (i : TypeInfo) (z : Value) (bytes : Nat) (ht : P.underlying t = some (.slice e)) (hi : P.info? e = some i) (hz : i.zero = some z) (hsize : i.size = 1) (hby : i.bytes = bytes) (hzs : z.cells.size = 1)
    (w0 wr : World) (v : Value) (n : Nat) (xs : List Value) (hs : a.eval sl = v) (hown : wr.ownsRow base e 1 v n xs) (y : Value) (hx : a.eval x = .slice (some ⟨wr.heap.size, 0, none⟩) 1 1) (hW : W = wr.alloc (.cells #[y] e)) (h1 : y.oneCell' = true)
    (hbytes : (n + 1) * bytes ≤ 140737488355328) (hn : n + 1 ≤ maxLen) (hb : Below base w0 wr) (hbase : base ≤ wr.heap.size)
    (h : ∀ v' w', w'.ownsRow base e 1 v' (n + 1) (xs ++ [y]) → Below base w0 w' → wr.grownBy w' v.ownBlock → wpList P ops Q rest (a.put o.dst v') w') : wpList P ops Q (o :: rest) a W := by
  subst hW
  refine wpList_append_own _ hgd sl x t ho base e i z 1 bytes ht hi hz hsize hby hzs (by decide) v n xs hs (hown.alloc _) ⟨wr.heap.size, 0, none⟩ 1 1 [y] hx rfl ?_ ?_ hn hbytes (by simp; omega) ?_
  · intro j u hj
    match j, hj with
    | 0, hj => simp at hj; subst hj; simp [Addr.add]
  · intro u hu
    obtain rfl := List.mem_singleton.1 hu
    exact h1
  · intro v' w' h2 h3 _
    refine h v' w' h2 ?_ ?_
    · exact (hb.alloc hbase _).grown h3 (by simp; omega) (fun k hk => (hown.lt k hk).1)
    · exact ⟨h3.os, h3.tape, h3.output, Nat.le_trans (by simp) h3.size, fun k hk hne => (h3.block k (by simp; omega) hne).trans (Below.heap_alloc wr _ k hk)⟩

theorem grown_of_below {w w' : World} (h : Below w.heap.size w w') (row : Option Nat) : w.grownBy w' row := ⟨h.os, h.tape, h.output, h.size, fun i hi _ => h.block i hi⟩
theorem own_below {w w' : World} {base n size : Nat} {e : TypeId} {v : Value} {xs : List Value} (h : w.ownsRow base e size v n xs) (hb : Below w.heap.size w w') : w'.ownsRow base e size v n xs :=
  h.kept (grown_of_below hb none) (by cases hv : v.ownBlock <;> simp)
theorem grown_then {a b c : World} {row : Option Nat} (h : a.grownBy b row) (k : b.grownBy c row) : a.grownBy c row :=
  ⟨k.os.trans h.os, k.tape.trans h.tape, k.output.trans h.output, Nat.le_trans h.size k.size, fun i hi hne => (k.block i (Nat.lt_of_lt_of_le hi h.size) hne).trans (h.block i hi hne)⟩
theorem below_of_grown {B : Nat} {a b : World} {row : Option Nat} (h : a.grownBy b row) (hB : B ≤ a.heap.size) (hr : ∀ k, row = some k → B ≤ k) : Below B a b := (Below.refl _ _).grown h hB hr
/-- A slice that reads below B, behind a change of one row at or above B. -/
theorem Reads.row {w w' : World} {B n : Nat} {A : Option Addr} {xs : List Value} (h : Reads w B A n xs) {g : Nat} (hg : w.grownBy w' (some g)) (hB : B ≤ w.heap.size) (hr : B ≤ g) : Reads w' B A n xs :=
  h.grown hg hB (fun k hk => by injection hk with hk; omega)

theorem keep_cell {wr w : World} {p : Addr} {v : Value} (h : wr.cell? p = some v) (hp : p.block < wr.heap.size) (hb : Below wr.heap.size wr w) : w.cell? p = some v ∧ Below wr.heap.size wr w := ⟨(hb.cell hp).trans h, hb⟩

/-- Bytes, integers as cells. -/
def u8s (bs : List UInt8) : List Value := bs.map fun b => .int .u8 b.toNat
theorem u8_at {bs : List UInt8} {k : Nat} {u : Value} (h : (u8s bs)[k]? = some u) : ∃ b : UInt8, bs[k]? = some b ∧ u = .int .u8 b.toNat := by
  unfold u8s at h
  rw [List.getElem?_map] at h
  cases hs : bs[k]? with
  | none => simp [hs] at h
  | some s => simp [hs] at h; exact ⟨s, rfl, h.symm⟩
def i64s (zs : List Int) : List Value := zs.map (Value.int .i64)
theorem i64_at {zs : List Int} {k : Nat} {u : Value} (h : (i64s zs)[k]? = some u) : ∃ z, zs[k]? = some z ∧ u = .int .i64 z := by
  unfold i64s at h
  rw [List.getElem?_map] at h
  cases hs : zs[k]? with
  | none => simp [hs] at h
  | some s => simp [hs] at h; exact ⟨s, rfl, h.symm⟩

/-- Nothing but draws. -/
def Drew (w w' : World) : Prop := ∃ n : Nat, w' = w.drewN n
theorem Drew.refl (w : World) : Drew w w := ⟨0, rfl⟩
theorem Drew.of_eq {w w' : World} (h : w' = w) : Drew w w' := by subst h; exact Drew.refl _
theorem Drew.more {w w' : World} (h : Drew w w') (k : Nat) : Drew w (w'.drewN k) := by
  obtain ⟨n, rfl⟩ := h
  exact ⟨n + k, by rw [World.drewN_drewN]⟩
theorem Drew.trans {a b c : World} (h : Drew a b) (k : Drew b c) : Drew a c := by
  obtain ⟨n, rfl⟩ := k
  exact h.more n
theorem Drew.cell {w w' : World} (h : Drew w w') (p : Addr) : w'.cell? p = w.cell? p := by obtain ⟨n, rfl⟩ := h; rfl
theorem Drew.size {w w' : World} (h : Drew w w') : w'.heap.size = w.heap.size := by obtain ⟨n, rfl⟩ := h; rfl
theorem Drew.below {w w' : World} (h : Drew w w') (B : Nat) : Below B w w' := by
  obtain ⟨n, rfl⟩ := h
  exact ⟨rfl, rfl, rfl, Nat.le_refl _, fun _ _ => rfl⟩
theorem Reads.ofDrew {w w' : World} {B n : Nat} {A : Option Addr} {xs : List Value} (h : Reads w B A n xs) (hd : Drew w w') : Reads w' B A n xs := h.keep fun p _ => hd.cell p

theorem size_list' (s : ByteArray) : s.data.toList.length = s.size := by rw [Array.length_toList]; rfl
theorem ret_int {k : IntKind} {a b : Int} (h : a = b) : Ending.returned (.int k a) = .returned (.int k b) := by rw [h]
theorem ret_bool {a b : Bool} (h : a = b) : Ending.returned (.bool a) = .returned (.bool b) := by rw [h]
theorem ret_str {a b : ByteArray} (h : a = b) : Ending.returned (.string a) = .returned (.string b) := by rw [h]
theorem hide {p : Prop} (h : p) : Hid p := h
theorem unhide {p : Prop} (h : Hid p) : p := h
end Go.Proofs.Ytcnmnpbipencmaa


/-
  CONTRACTS OF THE LAWS' HELPERS OVER []int: toIntS, eqIntS, markIntS, heldIntS; and the words for them.
-/

namespace Go.Proofs.Ytcnmnpbipencmaa
set_option maxRecDepth 100000
open Go.RowKit

/-- Numbers of 64 bits. -/
def Small (zs : List Int) : Prop := ∀ z ∈ zs, -9223372036854775808 ≤ z ∧ z ≤ 9223372036854775807
theorem i64_get {zs : List Int} {k : Nat} {z : Int} (h : zs[k]? = some z) : (i64s zs)[k]? = some (.int .i64 z) := by
  unfold i64s; rw [List.getElem?_map, h]; rfl
theorem i64_length (zs : List Int) : (i64s zs).length = zs.length := by unfold i64s; rw [List.length_map]
theorem i64_inj {xs ys : List Int} (h : i64s xs = i64s ys) : xs = ys := by
  refine List.ext_getElem? fun i => ?_
  have e := congrArg (fun l => l[i]?) h
  simp only [i64s, List.getElem?_map] at e
  cases hx : xs[i]? <;> cases hy : ys[i]? <;> simp_all
theorem take_set_i {α : Type} {xs ys : List α} {k : Nat} {u : α} (h : xs.take k = ys.take k) (hu : ys[k]? = some u) (hl : k < xs.length) : (xs.set k u).take (k + 1) = ys.take (k + 1) := by
  rw [List.take_add_one, List.take_add_one, List.take_set_of_le (Nat.le_refl _), h]
  simp [hu, hl]
theorem below_set_i {B : Nat} {w w' : World} {e : TypeId} {size : Nat} {g cap n : Nat} {xs : List Value} (hb : Below B w w') (hown : w'.ownsRow B e size (.slice (some ⟨g, 0, none⟩) n cap) n xs) (j : Nat) (u : Value) : Below B w (w'.setCell ⟨g, j, none⟩ u) :=
  hb.setCell (hown.lt g rfl).1 _
theorem intInfo : (Try.prog.info? 3).map (fun i => (i.zero, i.size, i.bytes)) = some (some (.int .i64 0), 1, 8) := by kernel_rfl

/-- A row from block B on whose first n cells are these: it may be read and written, whatever its type and its room. -/
def Row (w : World) (B : Nat) (v : Value) (n : Nat) (xs : List Value) : Prop :=
  xs.length = n ∧ ((v = .slice none 0 0 ∧ n = 0) ∨ ∃ g cap cur e, v = .slice (some ⟨g, 0, none⟩) n cap ∧ B ≤ g ∧ w.heap[g]? = some (.cells cur e (0, 0)) ∧ (n ≤ cap ∧ n ≤ cur.size) ∧ cur.toList.take n = xs ∧ e ≠ 24)
section
variable {w w' : World} {B n : Nat} {v : Value} {xs : List Value}
theorem Row.of_own {e : TypeId} (h : w.ownsRow B e 1 v n xs) (he : e ≠ 24) : Row w B v n xs := by
  refine ⟨by simpa using h.1, ?_⟩
  rcases h.2 with h0 | ⟨g, cap, cur, hv, hb, hg, hnc, _, hs, ht⟩
  · exact .inl h0
  · exact .inr ⟨g, cap, cur, e, hv, hb, hg, ⟨hnc, by omega⟩, by simpa using ht, he⟩
theorem Row.lt (h : Row w B v n xs) : ∀ k, v.ownBlock = some k → B ≤ k ∧ k < w.heap.size := by
  intro k hk
  rcases h.2 with ⟨rfl, _⟩ | ⟨g, cap, cur, e, rfl, hb, hg, _⟩
  · simp [Value.ownBlock] at hk
  · simp [Value.ownBlock] at hk
    subst hk
    exact ⟨hb, (Array.getElem?_eq_some_iff.1 hg).1⟩
theorem Row.kept {row : Option Nat} (h : Row w B v n xs) (hg : w.grownBy w' row) (hne : v.ownBlock = none ∨ v.ownBlock ≠ row) : Row w' B v n xs := by
  refine ⟨h.1, ?_⟩
  rcases h.2 with hn | ⟨g, cap, cur, e, rfl, hb, hgg, rest⟩
  · exact .inl hn
  · refine .inr ⟨g, cap, cur, e, rfl, hb, ?_, rest⟩
    rw [hg.block g (Array.getElem?_eq_some_iff.1 hgg).1 (by simpa [Value.ownBlock] using hne)]
    exact hgg
theorem Row.cells {g : Nat} (h : Row w B v n xs) (hv : v.ownBlock = some g) (j : Nat) (hj : j < n) : w.cell? ⟨g, j, none⟩ = xs[j]? := by
  rcases h.2 with ⟨rfl, _⟩ | ⟨g', cap, cur, e, rfl, hb, hg, _, ht, _⟩
  · simp [Value.ownBlock] at hv
  · simp [Value.ownBlock] at hv
    subst hv
    rw [cell_of_row w g' j cur e (0, 0) hg, ← ht, List.getElem?_take, if_pos hj]
    simp
theorem Row.frozen {g : Nat} (h : Row w B v n xs) (hv : v.ownBlock = some g) (j : Nat) : w.frozen? ⟨g, j, none⟩ = false := by
  rcases h.2 with ⟨rfl, _⟩ | ⟨g', cap, cur, e, rfl, hb, hg, _⟩
  · simp [Value.ownBlock] at hv
  · simp [Value.ownBlock] at hv
    subst hv
    exact frozen_of_row w g' j cur e hg
theorem Row.stored {g : Nat} (h : Row w B v n xs) (hv : v.ownBlock = some g) (j : Nat) (u : Value) : Row (w.setCell ⟨g, j, none⟩ u) B v n (xs.set j u) ∧ w.grownBy (w.setCell ⟨g, j, none⟩ u) (some g) := by
  rcases h.2 with ⟨rfl, _⟩ | ⟨g', cap, cur, e, rfl, hb, hg, hs, ht, he⟩
  · simp [Value.ownBlock] at hv
  · simp [Value.ownBlock] at hv
    subst hv
    refine ⟨⟨by simpa using h.1, .inr ⟨g', cap, cur.setIfInBounds j u, e, rfl, hb, heap_setCell_same w g' j cur e u hg, ⟨hs.1, by simpa using hs.2⟩, ?_, he⟩⟩, ⟨rfl, rfl, rfl, by simp, fun k _ hk => Below.heap_setCell w _ u k (fun he => hk (by rw [he]))⟩⟩
    rw [Array.toList_setIfInBounds, List.take_set, ht]
theorem Row.reads {c : Nat} {A : Option Addr} (h : Row w B (.slice A n c) n xs) : Reads w w.heap.size A n xs := by
  rcases h.2 with ⟨hv, h0⟩ | ⟨g, cap, cur, e, hv, hb, hg, hs, ht, _⟩
  · exact ⟨h.1, fun hn => by omega⟩
  · injection hv with hA _ _
    subst hA
    refine ⟨h.1, fun _ => ⟨_, rfl, (Array.getElem?_eq_some_iff.1 hg).1, fun j u hu => ?_⟩⟩
    have hj : j < n := by have := (List.getElem?_eq_some_iff.1 hu).1; have := h.1; omega
    rw [show (⟨g, 0, none⟩ : Addr).add j = ⟨g, j, none⟩ by unfold Addr.add; split <;> simp_all, h.cells (g := g) rfl j hj]
    exact hu
end
theorem Row.cap {w : World} {B n c : Nat} {A : Option Addr} {xs : List Value} (h : Row w B (.slice A n c) n xs) : n ≤ c := by
  rcases h.2 with ⟨hv, h0⟩ | ⟨g, cap, cur, e, hv, _, _, hs, _⟩
  · omega
  · injection hv with _ _ hc
    rw [hc]; exact hs.1
/-- A row of the call's own that holds these numbers. -/
def Ints (w : World) (B : Nat) (v : Value) (zs : List Int) : Prop := Row w B v zs.length (i64s zs)
theorem Ints.of_own {w : World} {B n : Nat} {v : Value} {zs : List Int} (h : w.ownsRow B 3 1 v n (i64s zs)) : Ints w B v zs := by
  have hn : zs.length = n := by have := h.1; rw [i64_length] at this; omega
  unfold Ints
  rw [hn]
  exact Row.of_own h (by decide)
theorem Ints.slice {w : World} {B : Nat} {v : Value} {zs : List Int} (h : Ints w B v zs) : ∃ A c, v = .slice A zs.length c := by
  rcases h.2 with ⟨rfl, hz⟩ | ⟨g, cap, cur, e, rfl, _⟩
  · exact ⟨none, 0, by rw [hz]⟩
  · exact ⟨_, _, rfl⟩
theorem Ints.len {w : World} {B n c : Nat} {A : Option Addr} {zs : List Int} (h : Ints w B (.slice A n c) zs) : zs.length = n := by
  obtain ⟨A', c', hv⟩ := h.slice
  injection hv with _ h2; exact h2.symm
theorem Ints.cap {w : World} {B n c : Nat} {A : Option Addr} {zs : List Int} (h : Ints w B (.slice A n c) zs) : n ≤ c := by
  obtain rfl := h.len
  exact Row.cap h
theorem Ints.reads {w : World} {B n c : Nat} {A : Option Addr} {zs : List Int} (h : Ints w B (.slice A n c) zs) : Reads w w.heap.size A n (i64s zs) := by
  have hn : n = zs.length := by
    rcases h.2 with ⟨hv, hz⟩ | ⟨g, cap, cur, e, hv, _⟩
    · injection hv with _ h2; omega
    · injection hv
  subst hn
  exact Row.reads h
theorem Ints.below {w w' : World} {B : Nat} {v : Value} {zs : List Int} (h : Ints w B v zs) (hb : Below w.heap.size w w') : Ints w' B v zs := Row.kept h (grown_of_below hb none) (by cases hv : v.ownBlock <;> simp)
theorem Ints.kept {w w' : World} {B : Nat} {v : Value} {zs : List Int} (h : Ints w B v zs) {row : Option Nat} (hg : w.grownBy w' row) (hne : v.ownBlock = none ∨ v.ownBlock ≠ row) : Ints w' B v zs := Row.kept h hg hne
theorem Ints.low {w : World} {B B' : Nat} {v : Value} {zs : List Int} (h : Ints w B v zs) (hB : B' ≤ B) : Ints w B' v zs :=
  ⟨h.1, by
    rcases h.2 with h0 | ⟨g, cap, cur, e, hv, hb, hr⟩
    · exact .inl h0
    · exact .inr ⟨g, cap, cur, e, hv, Nat.le_trans hB hb, hr⟩⟩
theorem own0 (w : World) (B : Nat) (hB : B ≤ w.heap.size) : (w.alloc (.cells #[] 3)).ownsRow B 3 1 (.slice (some ⟨w.heap.size, 0, none⟩) 0 0) 0 [] :=
  World.ownsRow_made (base := B) (e := 3) (size := 1) w #[] 0 hB (by simp [maxLen]) rfl
theorem Ints.made0 (w : World) (B : Nat) (hB : B ≤ w.heap.size) : Ints (w.alloc (.cells #[] 3)) B (.slice (some ⟨w.heap.size, 0, none⟩) 0 0) [] := Ints.of_own (zs := []) (own0 w B hB)
theorem Ints.nil (w : World) (B : Nat) : Ints w B (.slice none 0 0) [] := ⟨rfl, .inl ⟨rfl, rfl⟩⟩
/-- Where the block lies. -/
def Since (B : Nat) (v : Value) : Prop := ∀ k, v.ownBlock = some k → B ≤ k
def Until (B : Nat) (v : Value) : Prop := ∀ k, v.ownBlock = some k → k < B
theorem Ints.since {w : World} {B : Nat} {v : Value} {zs : List Int} (h : Ints w B v zs) : Since B v := fun k hk => (Row.lt h k hk).1
theorem Ints.until_ {w : World} {B : Nat} {v : Value} {zs : List Int} (h : Ints w B v zs) : Until w.heap.size v := fun k hk => (Row.lt h k hk).2
theorem Since.mono {B B' : Nat} {v : Value} (h : Since B v) (hb : B' ≤ B) : Since B' v := fun k hk => Nat.le_trans hb (h k hk)
theorem Until.mono {B B' : Nat} {v : Value} (h : Until B v) (hb : B ≤ B') : Until B' v := fun k hk => Nat.lt_of_lt_of_le (h k hk) hb
theorem apart {B B' : Nat} {u v : Value} (hu : Until B u) (hv : Since B' v) (hb : B ≤ B') : u.ownBlock = none ∨ u.ownBlock ≠ v.ownBlock := by
  cases h : u.ownBlock with
  | none => exact .inl rfl
  | some k => exact .inr fun e => by have := hu k h; have := hv k e.symm; omega
theorem apart' {B B' : Nat} {u v : Value} (hu : Since B' u) (hv : Until B v) (hb : B ≤ B') : u.ownBlock = none ∨ u.ownBlock ≠ v.ownBlock := by
  cases h : u.ownBlock with
  | none => exact .inl rfl
  | some k => exact .inr fun e => by have := hv k e.symm; have := hu k h; omega
theorem below_row {B : Nat} {w0 w w' : World} {v : Value} (hb : Below B w0 w) (hg : w.grownBy w' v.ownBlock) (hB : B ≤ w.heap.size) (hs : Since B v) : Below B w0 w' := hb.grown hg hB hs

theorem made_zeros (n : Nat) : (madeCells (Value.int .i64 0).cells (n * 1)).toList = i64s (List.replicate n 0) := by
  rw [Nat.mul_one]
  unfold i64s
  rw [List.map_replicate]
  exact toList_madeCells_one _ _

def GivesI (w : World) (zs : List Int) (e : Ending) (w' : World) : Prop := ∃ A c, e = .returned (.slice A zs.length c) ∧ Ints w' w.heap.size (.slice A zs.length c) zs ∧ Below w.heap.size w w'
def GivesIB (w : World) (zs : List Int) (b : Bool) (e : Ending) (w' : World) : Prop := ∃ A c, e = .returned (.tuple #[.slice A zs.length c, .bool b]) ∧ Ints w' w.heap.size (.slice A zs.length c) zs ∧ Below w.heap.size w w'
theorem GivesI.mk {w w' : World} {v : Value} {zs : List Int} (h : Ints w' w.heap.size v zs) (hb : Below w.heap.size w w') : GivesI w zs (.returned v) w' := by
  obtain ⟨A, c, rfl⟩ := h.slice
  exact ⟨A, c, rfl, h, hb⟩
theorem GivesIB.mk {w w' : World} {v : Value} {zs : List Int} (b : Bool) (h : Ints w' w.heap.size v zs) (hb : Below w.heap.size w w') : GivesIB w zs b (.returned (.tuple #[v, .bool b])) w' := by
  obtain ⟨A, c, rfl⟩ := h.slice
  exact ⟨A, c, rfl, h, hb⟩

def GivesB (w : World) (b : Bool) (e : Ending) (w' : World) : Prop := e = .returned (.bool b) ∧ Below w.heap.size w w'
def GivesS (w : World) (s : ByteArray) (e : Ending) (w' : World) : Prop := e = .returned (.string s) ∧ Below w.heap.size w w'
def GivesN (w : World) (z : Int) (e : Ending) (w' : World) : Prop := e = .returned (.int .i64 z) ∧ Below w.heap.size w w'
/-- A list of integers as an argument: it reads below B, it is not long, its numbers have 64 bits. -/
structure Arg (w : World) (B : Nat) (A : Option Addr) (n c : Nat) (zs : List Int) : Prop where
  reads : Reads w B A n (i64s zs)
  under : B ≤ w.heap.size
  le : n ≤ 1048576
  cap : n ≤ c
  small : Small zs
  nil : A = none → c = 0
theorem Arg.len {w : World} {B n c : Nat} {A : Option Addr} {zs : List Int} (h : Arg w B A n c zs) : zs.length = n := by have := h.reads.1; rwa [i64_length] at this
theorem Arg.below {w w' : World} {B n c : Nat} {A : Option Addr} {zs : List Int} (h : Arg w B A n c zs) (hb : Below w.heap.size w w') : Arg w' B A n c zs :=
  ⟨h.reads.below (hb.mono h.under), Nat.le_trans h.under hb.size, h.le, h.cap, h.small, h.nil⟩
theorem Arg.more {w : World} {B B' n c : Nat} {A : Option Addr} {zs : List Int} (h : Arg w B A n c zs) (hB : B ≤ B') (hu : B' ≤ w.heap.size) : Arg w B' A n c zs := ⟨h.reads.more hB, hu, h.le, h.cap, h.small, h.nil⟩
theorem Ints.arg {w : World} {B n c : Nat} {A : Option Addr} {zs : List Int} (h : Ints w B (.slice A n c) zs) (hn : n ≤ 1048576) (hc : n ≤ c) (hz : Small zs) : Arg w w.heap.size A n c zs := ⟨h.reads, Nat.le_refl _, hn, hc, hz, fun hA => by
  rcases h.2 with ⟨hv, _⟩ | ⟨g, cap, cur, e, hv, _⟩
  · injection hv
  · injection hv with h1; rw [h1] at hA; cases hA⟩
theorem small_of_wf {zs : List Int} (h : ∀ z ∈ zs, (Lit.int .i64 z).wf = true) : Small zs := fun z hz => by
  simpa [Lit.wf, IntKind.min, IntKind.max, IntKind.signed, IntKind.bits] using h z hz
theorem cellsInt : Try.prog.cellsOf 3 = 1 := by kernel_rfl

set_option maxHeartbeats 400000 in
/-- toIntS: a row of the call's own with the same numbers. -/
theorem toi_any (A : Option Addr) (n c B : Nat) (zs : List Int) (w : World) (hr : Reads w B A n (i64s zs)) (hB : B ≤ w.heap.size) (hn : n ≤ 1099511627776) :
    Calls Try.prog 40 #[.slice A n c] w fun e w' => e = .returned (.slice (some ⟨w.heap.size, 0, none⟩) n n) ∧ Ints w' w.heap.size (.slice (some ⟨w.heap.size, 0, none⟩) n n) zs ∧ Below w.heap.size w w' := by
  obtain ⟨i0, hi, hz0, hz1, hz2⟩ := info_parts intInfo
  go_enter Try.func40, Try.ntmps40
  go_wp2_with (first
    | (at_make; refine wpList_make_full _ rfl (.tmp 6) (.tmp 6) 24 rfl w.heap.size 3 i0 (.int .i64 0) 1 Try.underlying24 hi hz0 hz1 _ _ _ _ n rfl rfl (by first | rfl | omega) (by first | rfl | omega) (by rw [hz2]; omega) (by unfold maxLen; omega) (Nat.le_refl _) ?_; intro w1 hown hg))
  have hb1 : Below w.heap.size w w1 := (Below.refl _ _).grown hg (Nat.le_refl _) (by simp)
  clear hg
  go_loopw [4] (fun i wr => ∃ (k : Nat) (xs : List Value), k ≤ n ∧ i = .int .i64 k ∧ Below w.heap.size w wr ∧ wr.ownsRow w.heap.size 3 1 (.slice (some ⟨w.heap.size, 0, none⟩) n n) n xs ∧ Hid (xs.take k = (i64s zs).take k)) (fun i _ => n - (intOf i).toNat)
  case atStart => exact ⟨0, _, Nat.zero_le _, rfl, hb1, hown, by exact rfl⟩
  case round =>
    obtain ⟨k, xs, hk, rfl, hb, hown', hx⟩ := hrel
    clear hown hb1
    by_cases hlt : k < n
    · obtain ⟨ad, u, rfl, had, hu, hc⟩ := ((hr.more hB).below hb).at_ hlt
      obtain ⟨s, hs, rfl⟩ := i64_at hu
      have hl : xs.length = n := by simpa using hown'.1
      obtain ⟨old, hold⟩ : ∃ old, wr.cell? ⟨w.heap.size, k, none⟩ = some old := ⟨_, by rw [hown'.cellAt k (by omega)]; exact List.getElem?_eq_getElem (by omega)⟩
      have hfz := hown'.frozenAt k
      have hst := hide (take_set_i (unhide hx) hu (by omega))
      have ho2 := (hown'.stored k (.int .i64 s)).1
      have hb2 := below_set_i hb hown' k (.int .i64 s)
      have hkn : k + 1 ≤ n := by omega
      clear hx hu hs hown' hb hl
      go_wp2
      go_roundw
      case rel => exact ⟨k + 1, _, hkn, by go_num, hb2, ho2, hst⟩
      case measure => simp [intOf]; omega
    · obtain rfl : n = k := by omega
      have hlx : xs.length = n := by simpa using hown'.1
      have hlr : zs.length = n := by have := hr.1; rwa [i64_length] at this
      have : xs = i64s zs := by
        have h := unhide hx
        rwa [List.take_of_length_le (by omega), List.take_of_length_le (by rw [i64_length]; omega)] at h
      subst this
      have hI : Ints wr w.heap.size (.slice (some ⟨w.heap.size, 0, none⟩) n n) zs := Ints.of_own hown'
      clear hx hlx hlr hown'
      go_wp2
      go_ret
      exact ⟨rfl, hI, hb⟩
set_option maxHeartbeats 400000 in
/-- eqIntS: equal lists. -/
theorem eqi_any (A A' : Option Addr) (n c n' c' B B' : Nat) (zs : List Int) (w : World) (hr : Reads w B A n (i64s zs)) (hr' : Reads w B' A' n' (i64s zs)) (hn : n ≤ 1099511627776) :
    Calls Try.prog 41 #[.slice A n c, .slice A' n' c'] w fun e w' => e = .returned (.bool true) ∧ Drew w w' := by
  have e1 : zs.length = n := by have := hr.1; rwa [i64_length] at this
  have e2 : zs.length = n' := by have := hr'.1; rwa [i64_length] at this
  obtain rfl : n = n' := by omega
  clear e1 e2
  go_enter Try.func41, Try.ntmps41
  go_wp2
  go_loopw [5] (fun i wr => ∃ k : Nat, k ≤ n ∧ i = .int .i64 k ∧ Drew w wr) (fun i _ => n - (intOf i).toNat)
  case atStart => exact ⟨0, Nat.zero_le _, rfl, Drew.refl _⟩
  case round =>
    obtain ⟨k, hk, rfl, hd⟩ := hrel
    by_cases hlt : k < n
    · obtain ⟨ad, u, rfl, _, hx, hc⟩ := (hr.ofDrew hd).at_ hlt
      obtain ⟨ad', u', rfl, _, hx', hc'⟩ := (hr'.ofDrew hd).at_ hlt
      obtain ⟨s, hs, rfl⟩ := i64_at hx
      obtain ⟨s', hs', rfl⟩ := i64_at hx'
      obtain rfl : s = s' := by rw [hs] at hs'; exact Option.some.inj hs'
      clear hx hx' hs hs' hr hr'
      have HD := hide hd
      clear hd
      go_wp2
      go_quiet (fail)
      go_wp2
      go_roundw
      case rel => exact ⟨k + 1, by omega, by go_num, (unhide HD).more _⟩
      case measure => simp [intOf]; omega
    · go_wp2
      go_ret
      exact ⟨rfl, hd⟩
/-- The marks from k on. -/
def marksI (k n : Nat) : List Int := (List.range n).map fun j => ((k + j : Nat) : Int)
theorem marksI_length (k n : Nat) : (marksI k n).length = n := by simp [marksI]
theorem marksI_at {k n j : Nat} (h : j < n) : (marksI k n)[j]? = some ((k + j : Nat) : Int) := by simp [marksI, h]
set_option maxHeartbeats 800000 in
/-- markIntS at a row of the call's own. -/
theorem marki_any (A : Option Addr) (n c base k : Nat) (zs : List Int) (w : World) (hown : Ints w base (.slice A n c) zs) (hkn : k + n ≤ 1099511627776) :
    Calls Try.prog 42 #[.slice A n c, .int .i64 k] w fun e w' => e = .returned (.int .i64 ((k + n : Nat) : Int)) ∧
      Ints w' base (.slice A n c) (marksI k n) ∧ w.grownBy w' (Value.slice A n c).ownBlock := by
  have hzn : zs.length = n := by
    obtain ⟨A', c', hv⟩ := hown.slice
    injection hv with _ h2; exact h2.symm
  have hown : Row w base (.slice A n c) n (i64s zs) := by unfold Ints at hown; rwa [hzn] at hown
  clear hzn
  go_enter Try.func42, Try.ntmps42
  go_wp2
  go_loopw [1, 5] (fun kv i wr => ∃ (j : Nat) (ys : List Value), j ≤ n ∧ kv = .int .i64 ((k + j : Nat) : Int) ∧ i = .int .i64 j ∧ w.grownBy wr (Value.slice A n c).ownBlock ∧ Row wr base (.slice A n c) n ys ∧ Hid (ys.take j = (i64s (marksI k n)).take j)) (fun _ i _ => n - (intOf i).toNat)
  case atStart => exact ⟨0, _, Nat.zero_le _, rfl, rfl, World.grownBy.refl w _, hown, rfl⟩
  case round =>
    obtain ⟨j, ys, hj, rfl, rfl, hgr, hown', hy⟩ := hrel
    clear hown
    by_cases hlt : j < n
    · have hyl : ys.length = n := by simpa using hown'.1
      obtain ⟨g, hA⟩ : ∃ g, A = some ⟨g, 0, none⟩ := by
        rcases hown'.2 with ⟨_, h0⟩ | ⟨g, cap, cur, e, hv, _⟩
        · omega
        · injection hv with h1; exact ⟨g, h1⟩
      subst hA
      obtain ⟨old, hold⟩ : ∃ old, wr.cell? ⟨g, j, none⟩ = some old := ⟨_, by rw [hown'.cells (g := g) rfl j (by omega)]; exact List.getElem?_eq_getElem (by omega)⟩
      have hfz := hown'.frozen (g := g) rfl j
      have ho2 := (hown'.stored (g := g) rfl j (.int .i64 ((k + j : Nat) : Int))).1
      have hg2 := grown_then hgr (hown'.stored (g := g) rfl j (.int .i64 ((k + j : Nat) : Int))).2
      have hnext := hide (take_set_i (ys := i64s (marksI k n)) (unhide hy) (i64_get (marksI_at hlt)) (by omega))
      clear hown' hgr hy hyl
      go_wp2
      go_roundw
      case rel => exact ⟨j + 1, _, by omega, by go_num, by go_num, hg2, ho2, hnext⟩
      case measure => simp [intOf]; omega
    · obtain rfl : n = j := by omega
      have hyl : ys.length = n := by simpa using hown'.1
      have hE : ys = i64s (marksI k n) := by
        have h := unhide hy
        rwa [List.take_of_length_le (by omega), List.take_of_length_le (by rw [i64_length, marksI_length]; omega)] at h
      subst hE
      have hI : Ints wr base (.slice A n c) (marksI k n) := by unfold Ints; rw [marksI_length]; exact hown'
      clear hy hyl hown'
      go_wp2
      go_ret
      exact ⟨rfl, hI, hgr⟩
theorem marki_at (A : Option Addr) (n c base k : Nat) (K : Int) (hK : K = (k : Int)) (zs : List Int) (w : World) (hown : Ints w base (.slice A n c) zs) (hkn : k + n ≤ 1099511627776) :
    Calls Try.prog 42 #[.slice A n c, .int .i64 K] w fun e w' => e = .returned (.int .i64 (K + (n : Int))) ∧
      Ints w' base (.slice A n c) (marksI k n) ∧ w.grownBy w' (Value.slice A n c).ownBlock := by
  subst hK
  refine (marki_any A n c base k zs w hown hkn).mono ?_
  rintro e w' ⟨rfl, h1, h2⟩
  exact ⟨ret_int (by omega), h1, h2⟩
set_option maxHeartbeats 800000 in
/-- heldIntS where the marks stand. -/
theorem heldi_any (A : Option Addr) (n c B k : Nat) (w : World) (hr : Reads w B A n (i64s (marksI k n))) (hkn : k + n ≤ 1099511627776) :
    Calls Try.prog 43 #[.slice A n c, .int .i64 k] w fun e w' => e = .returned (.int .i64 ((k + n : Nat) : Int)) ∧ w = w' := by
  go_enter Try.func43, Try.ntmps43
  go_wp2
  go_loop [1, 5] (fun kv i => ∃ j : Nat, j ≤ n ∧ kv = .int .i64 ((k + j : Nat) : Int) ∧ i = .int .i64 j) (fun _ i => n - (intOf i).toNat)
  case atStart => exact ⟨0, Nat.zero_le _, rfl, rfl⟩
  case round =>
    obtain ⟨j, hj, rfl, rfl⟩ := hrel
    by_cases hlt : j < n
    · obtain ⟨ad, u, rfl, had, hu, hc⟩ := hr.at_ hlt
      obtain ⟨s, hs, rfl⟩ := i64_at hu
      obtain rfl : ((k + j : Nat) : Int) = s := by rw [marksI_at hlt] at hs; exact Option.some.inj hs
      clear hu hs
      go_wp2
      go_round
      case rel => exact ⟨j + 1, by omega, by go_num, by go_num⟩
      case measure => simp [intOf]; omega
    · obtain rfl : n = j := by omega
      go_wp2
      go_ret
      exact ⟨rfl, rfl⟩
theorem heldi_at (A : Option Addr) (n c B k : Nat) (K : Int) (hK : K = (k : Int)) (w : World) (hr : Reads w B A n (i64s (marksI k n))) (hkn : k + n ≤ 1099511627776) :
    Calls Try.prog 43 #[.slice A n c, .int .i64 K] w fun e w' => e = .returned (.int .i64 (K + (n : Int))) ∧ w = w' := by
  subst hK
  refine (heldi_any A n c B k w hr hkn).mono ?_
  rintro e w' ⟨rfl, h1⟩
  exact ⟨ret_int (by omega), h1⟩
end Go.Proofs.Ytcnmnpbipencmaa


/-
  spec.l1In, spec.l2Has and spec.IsPerm, by their contracts.
-/

namespace Go.Proofs.Ytcnmnpbipencmaa
set_option maxRecDepth 100000
open Go.RowKit

theorem l1in_any (x lo hi : Int) (b : Bool) (hb : decide (lo ≤ x ∧ x ≤ hi) = b) (w : World) :
    Calls Try.prog 62 #[.int .i64 x, .int .i64 lo, .int .i64 hi] w fun e w' => e = .returned (.bool b) ∧ w' = w := by
  by_cases h1 : lo ≤ x
  · by_cases h2 : x ≤ hi
    · obtain rfl : b = true := by rw [← hb]; simp [h1, h2]
      clear hb
      go_enter Try.func62, Try.ntmps62
      go_wp2
      go_ret
      exact ⟨rfl, rfl⟩
    · obtain rfl : b = false := by rw [← hb]; simp [h2]
      clear hb
      go_enter Try.func62, Try.ntmps62
      go_wp2
      go_ret
      exact ⟨rfl, rfl⟩
  · obtain rfl : b = false := by rw [← hb]; simp [h1]
    clear hb
    go_enter Try.func62, Try.ntmps62
    go_wp2
    go_ret
    exact ⟨rfl, rfl⟩

theorem has_step {zs : List Int} {k : Nat} {y z : Int} (hz : zs[k]? = some y) (hne : y ≠ z) (h : z ∉ zs.take k) : z ∉ zs.take (k + 1) := by
  rw [take_snoc_i hz, List.mem_append, List.mem_singleton]
  rintro (h' | h')
  · exact h h'
  · exact hne h'.symm
theorem l2has_any (A : Option Addr) (n c B : Nat) (zs : List Int) (z : Int) (b : Bool) (hb : decide (z ∈ zs) = b) (w : World) (hr : Reads w B A n (i64s zs)) (hn : n ≤ 1099511627776) :
    Calls Try.prog 67 #[.slice A n c, .int .i64 z] w fun e w' => e = .returned (.bool b) ∧ w' = w := by
  have HB := hide hb
  clear hb
  go_enter Try.func67, Try.ntmps67
  go_wp2
  go_loop [5] (fun i => ∃ k : Nat, k ≤ n ∧ i = .int .i64 k ∧ Hid (z ∉ zs.take k)) (fun i => n - (intOf i).toNat)
  case atStart => exact ⟨0, Nat.zero_le _, rfl, by exact (by simp : z ∉ zs.take 0)⟩
  case round =>
    obtain ⟨k, hk, rfl, hno⟩ := hrel
    by_cases hlt : k < n
    · obtain ⟨ad, u, rfl, had, hu, hc⟩ := hr.at_ hlt
      obtain ⟨y, hy, rfl⟩ := i64_at hu
      clear hu
      by_cases he : y = z
      · subst he
        have hin : decide (y ∈ zs) = true := by simp [List.mem_of_getElem? hy]
        obtain rfl : b = true := (unhide HB).symm.trans hin
        clear hin hy HB hno
        go_wp2
        go_ret
        exact ⟨rfl, rfl⟩
      · have hnext := hide (has_step hy he (unhide hno))
        have he' : (y == z) = false := by simpa using he
        clear hno hy HB he
        go_wp2
        go_round
        case rel => exact ⟨k + 1, by omega, by go_num, hnext⟩
        case measure => simp [intOf]; omega
    · obtain rfl : n = k := by omega
      have hl : zs.length = n := by have := hr.1; rwa [i64_length] at this
      have hin : decide (z ∈ zs) = false := by
        have h := unhide hno
        rw [List.take_of_length_le (by omega)] at h
        simpa using h
      obtain rfl : b = false := (unhide HB).symm.trans hin
      clear hin HB hno hl
      go_wp2
      go_ret
      exact ⟨rfl, rfl⟩

theorem Reads.pre {w : World} {B n k : Nat} {A : Option Addr} {zs : List Int} (h : Reads w B A n (i64s zs)) (hk : k ≤ n) : Reads w B A k (i64s (zs.take k)) := by
  have hl : zs.length = n := by have := h.1; rwa [i64_length] at this
  refine ⟨by rw [i64_length, List.length_take]; omega, fun h0 => ?_⟩
  obtain ⟨ad, e, hb, hc⟩ := h.2 (by omega)
  refine ⟨ad, e, hb, fun j u hu => hc j u ?_⟩
  unfold i64s at hu ⊢
  rw [List.getElem?_map, List.getElem?_take] at hu
  rw [List.getElem?_map]
  by_cases hj : j < k
  · rwa [if_pos hj] at hu
  · rw [if_neg hj] at hu; cases hu
theorem Reads.len {w : World} {B n : Nat} {A : Option Addr} {zs : List Int} (h : Reads w B A n (i64s zs)) : zs.length = n := by have := h.1; rwa [i64_length] at this
theorem range_of {zs : List Int} {n : Nat} {z : Int} (hl : zs.length = n) (h : decide ((1 : Int) ≤ z ∧ z ≤ (n : Int)) = true) : 1 ≤ z ∧ z ≤ (zs.length : Int) := by rw [hl]; simpa using h
theorem range_not {zs : List Int} {n : Nat} {z : Int} (hl : zs.length = n) (h : decide ((1 : Int) ≤ z ∧ z ≤ (n : Int)) = false) : ¬ (1 ≤ z ∧ z ≤ (zs.length : Int)) := by rw [hl]; simpa using h

set_option maxHeartbeats 800000 in
theorem sisperm_any (A : Option Addr) (n c B : Nat) (zs : List Int) (b : Bool) (hb : isP zs = b) (w : World) (hr : Reads w B A n (i64s zs)) (hn : n ≤ 1048576) (hc : n ≤ c) :
    Calls Try.prog 51 #[.slice A n c] w fun e w' => e = .returned (.bool b) ∧ Drew w w' := by
  have HB := hide hb
  clear hb
  have hl := hr.len
  by_cases h8 : n ≤ 8
  · have HL := hide hl
    clear hl
    go_enter Try.func51, Try.ntmps51
    go_wp2
    go_loopw [3] (fun i wr => ∃ k : Nat, k ≤ n ∧ i = .int .i64 k ∧ Drew w wr ∧ Hid (Seen zs k)) (fun i _ => n - (intOf i).toNat)
    case atStart => exact ⟨0, Nat.zero_le _, rfl, Drew.refl _, by exact Seen.zero zs⟩
    case round =>
      obtain ⟨k, hk, rfl, hd, hs⟩ := hrel
      by_cases hlt : k < n
      · obtain ⟨ad, u, rfl, had, hu, hcell⟩ := (hr.ofDrew hd).at_ hlt
        obtain ⟨z, hz, rfl⟩ := i64_at hu
        have hpre := (hr.ofDrew hd).pre hk
        have HZ := hide hz
        have HD := hide hd
        clear hu hz hd
        obtain ⟨b1, hb1⟩ : ∃ b1, decide ((1 : Int) ≤ z ∧ z ≤ (n : Int)) = b1 := ⟨_, rfl⟩
        obtain ⟨b2, hb2⟩ : ∃ b2, decide (z ∈ zs.take k) = b2 := ⟨_, rfl⟩
        have HB1 := hide hb1
        have HB2 := hide hb2
        clear hb1 hb2
        have hkc : k ≤ c := by omega
        cases b1 with
        | false =>
          obtain rfl : b = false := (unhide HB).symm.trans (isP_no_range (unhide HZ) (range_not (unhide HL) (unhide HB1)))
          clear HB
          go_wp2
          go_quiet ((first | (go_at_call 62; exact Calls.quiet_of_same (l1in_any _ _ _ _ (unhide HB1) _)) | (go_at_call 67; exact Calls.quiet_of_same (l2has_any _ _ _ _ _ _ _ (unhide HB2) _ hpre (by omega)))))
          go_wp2
          go_ret
          exact ⟨rfl, (unhide HD).more _⟩
        | true =>
          cases b2 with
          | true =>
            obtain rfl : b = false := (unhide HB).symm.trans (isP_no_twice (unhide HZ) (by simpa using unhide HB2))
            clear HB
            go_wp2
            go_quiet ((first | (go_at_call 62; exact Calls.quiet_of_same (l1in_any _ _ _ _ (unhide HB1) _)) | (go_at_call 67; exact Calls.quiet_of_same (l2has_any _ _ _ _ _ _ _ (unhide HB2) _ hpre (by omega)))))
            go_wp2
            go_ret
            exact ⟨rfl, (unhide HD).more _⟩
          | false =>
            have hnext := hide ((unhide hs).step (unhide HZ) (range_of (unhide HL) (unhide HB1)) (by simpa using unhide HB2))
            go_wp2
            go_quiet ((first | (go_at_call 62; exact Calls.quiet_of_same (l1in_any _ _ _ _ (unhide HB1) _)) | (go_at_call 67; exact Calls.quiet_of_same (l2has_any _ _ _ _ _ _ _ (unhide HB2) _ hpre (by omega)))))
            go_wp2
            go_roundw
            case rel => exact ⟨k + 1, by omega, by go_num, (unhide HD).more _, hnext⟩
            case measure => simp [intOf]; omega
      · obtain rfl : n = k := by omega
        obtain rfl : b = true := (unhide HB).symm.trans (Seen.isP (by rw [unhide HL]; exact unhide hs) (by rw [unhide HL]; exact h8))
        clear HB hs
        have h8b : decide ((n : Int) ≤ 8) = true := by simp; omega
        go_wp2
        go_ret
        exact ⟨rfl, hd⟩
  · obtain rfl : b = false := (unhide HB).symm.trans (isP_long (by omega))
    clear HB hl
    have h8' : 8 < n := by omega
    go_enter Try.func51, Try.ntmps51
    go_wp2
    go_loopw [3] (fun i wr => i = .int .i64 0 ∧ w = wr) (fun i _ => 0)
    case atStart => exact ⟨rfl, rfl⟩
    case round =>
      obtain ⟨rfl, rfl⟩ := hrel
      have h8b : decide ((n : Int) ≤ 8) = false := by simp; omega
      go_wp2
      go_ret
      exact ⟨rfl, Drew.refl _⟩

end Go.Proofs.Ytcnmnpbipencmaa


/-
  A block known whole (its cells, its type, nothing frozen); arrays of eight integers as values.
-/

namespace Go.Proofs.Ytcnmnpbipencmaa
set_option maxRecDepth 100000
open Go.RowKit

/-- Block g holds these cells of this type, and none is frozen. -/
def Whole (w : World) (g : Nat) (t : TypeId) (cs : Array Value) : Prop := w.heap[g]? = some (.cells cs t (0, 0))
section
variable {w w' : World} {g : Nat} {t : TypeId} {cs : Array Value}
theorem Whole.lt (h : Whole w g t cs) : g < w.heap.size := by
  unfold Whole at h
  exact (Array.getElem?_eq_some_iff.1 h).1
theorem Whole.cell (h : Whole w g t cs) (i : Nat) : w.cell? ⟨g, i, none⟩ = cs[i]? := cell_of_row w g i cs t (0, 0) h
theorem Whole.frozen (h : Whole w g t cs) (i : Nat) : w.frozen? ⟨g, i, none⟩ = false := by
  unfold Whole at h
  simp [World.frozen?, h]
theorem Whole.new (w : World) (t : TypeId) (cs : Array Value) : Whole (w.alloc (.cells cs t)) w.heap.size t cs := heap_alloc_new w _
theorem Whole.drewN (h : Whole w g t cs) (n : Nat) : Whole (w.drewN n) g t cs := h
theorem Whole.alloc (h : Whole w g t cs) (o : Obj) : Whole (w.alloc o) g t cs := (Below.heap_alloc w o g h.lt).trans h
theorem Whole.put (h : Whole w g t cs) (i : Nat) (u : Value) : Whole (w.setCell ⟨g, i, none⟩ u) g t (cs.setIfInBounds i u) := by
  unfold Whole at h ⊢
  simp [World.setCell, Array.getElem?_modify, h]
theorem Whole.far (h : Whole w g t cs) {p : Addr} (hp : g ≠ p.block) (u : Value) : Whole (w.setCell p u) g t cs := (Below.heap_setCell w p u g hp).trans h
theorem Whole.below {B : Nat} (h : Whole w g t cs) (hb : Below B w w') (hg : g < B) : Whole w' g t cs := (hb.block g hg).trans h
theorem Whole.grown {row : Option Nat} (h : Whole w g t cs) (hb : w.grownBy w' row) (hg : some g ≠ row) : Whole w' g t cs := (hb.block g h.lt hg).trans h
end
theorem below_drew (B : Nat) (w : World) : Below B w w.drew := ⟨rfl, rfl, rfl, Nat.le_refl _, fun _ _ => rfl⟩
/-- An array's cells. -/
def arr (l : List Int) : Array Value := (i64s l).toArray
theorem arr_at {l : List Int} {k : Nat} {z : Int} (h : l[k]? = some z) : (arr l)[k]? = some (.int .i64 z) := by unfold arr; rw [List.getElem?_toArray]; exact i64_get h
theorem arr_set (l : List Int) (k : Nat) (z : Int) : (arr l).setIfInBounds k (.int .i64 z) = arr (l.set k z) := by
  unfold arr i64s
  rw [List.setIfInBounds_toArray, List.map_set]
theorem arr_size (l : List Int) : (arr l).size = l.length := by unfold arr; rw [List.size_toArray, i64_length]
end Go.Proofs.Ytcnmnpbipencmaa


/-
  impl.ascendingArray, by its contract.
-/

namespace Go.Proofs.Ytcnmnpbipencmaa
set_option maxRecDepth 100000
open Go.RowKit

theorem permInfo : (Try.prog.info? 56).map (·.size) = some 8 := by kernel_rfl
theorem arr_one (l : List Int) : (arr l).all (·.oneCell') = true := by
  unfold arr i64s
  simp only [List.all_toArray, List.all_map, List.all_eq_true]
  intro z _
  rfl
theorem zeros_asc : (#[Value.int .i64 0, Value.int .i64 0, Value.int .i64 0, Value.int .i64 0, Value.int .i64 0, Value.int .i64 0, Value.int .i64 0, Value.int .i64 0] : Array Value) = arr (ascL 0) := by rw [ascL_zero]; rfl
theorem below_set_row {B : Nat} {w w' : World} (hb : Below B w w') (g : Nat) (cs : Array Value) (hg : B ≤ g) : Below B w (w'.setRow g cs) :=
  hb.trans ⟨rfl, rfl, rfl, by simp [World.setRow], fun k hk => setRow_other w' g k cs (by omega)⟩

set_option maxHeartbeats 400000 in
theorem asc_any (n : Nat) (hn : n ≤ 8) (w : World) :
    Calls Try.prog 66 #[.int .i64 n] w fun e w' => e = .returned (.agg (arr (ascL n))) ∧ Below w.heap.size w w' := by
  go_enter Try.func66, Try.ntmps66
  go_wp2
  rw [zeros_asc]
  go_loopw [4, 6] (fun _ i wr => ∃ k : Nat, k ≤ n ∧ i = .int .i64 k ∧ Below w.heap.size w wr ∧ Whole wr w.heap.size 56 (arr (ascL 0)) ∧ Whole wr (w.heap.size + 1) 56 (arr (ascL k))) (fun _ i _ => n - (intOf i).toNat)
  case atStart =>
    have h1 := Whole.new w 56 (arr (ascL 0))
    have h2 := Whole.new (w.alloc (.cells (arr (ascL 0)) 56)) 56 (arr (ascL 0))
    rw [show (w.alloc (.cells (arr (ascL 0)) 56)).heap.size = w.heap.size + 1 by simp] at h2
    exact ⟨0, Nat.zero_le _, rfl, ((Below.refl _ _).alloc (Nat.le_refl _) _).alloc (by simp) _, h1.alloc _, h2⟩
  case round =>
    obtain ⟨k, hk, rfl, hb, hw0, hw1⟩ := hrel
    by_cases hlt : k < n
    · have hk8 : k < 8 := by omega
      obtain ⟨old, hold⟩ : ∃ old, wr.cell? ⟨w.heap.size + 1, k, none⟩ = some old := by
        rw [hw1.cell]
        exact ⟨_, Array.getElem?_eq_getElem (by rw [arr_size, ascL_length]; exact hk8)⟩
      have hfz := hw1.frozen k
      have n1 := hw1.put k (.int .i64 ((k : Int) + 1))
      rw [arr_set, ascL_step] at n1
      have n0 := hw0.far (p := ⟨w.heap.size + 1, k, none⟩) (by simp) (.int .i64 ((k : Int) + 1))
      have nb := hb.setCell (p := ⟨w.heap.size + 1, k, none⟩) (by simp) (.int .i64 ((k : Int) + 1))
      clear hw0 hw1 hb
      go_wp2
      go_roundw
      case rel => exact ⟨k + 1, by omega, by go_num, nb, n0, n1⟩
      case measure => simp [intOf]; omega
    · obtain rfl : n = k := by omega
      go_wp2_with (first
        | (refine wpList_load_row rfl 56 (.tmp 3) rfl (w.heap.size + 1) rfl 56 (arr (ascL n)) (0, 0) _ hw1 Try.underlying56 rfl (by rw [arr_size, ascL_length]; exact permInfo) ?_)
        | (refine wpList_store_row rfl 56 (.tmp 2) (.tmp 14) rfl w.heap.size (arr (ascL n)) rfl rfl 56 (arr (ascL 0)) hw0 (by rw [arr_size, ascL_length]; exact permInfo) (by rw [arr_size, arr_size, ascL_length, ascL_length]) (arr_one _) ?_))
      refine bodyPost_ret (v := .agg (arr (ascL n))) (results_cell_row Try.results66 _ _ w.heap.size 56 (arr (ascL n)) (0, 0) _ rfl (setRow_heap _ _ _ _ _ _ hw0) Try.underlying56 rfl (by rw [arr_size, ascL_length]; exact permInfo)) rfl ?_
      exact ⟨rfl, below_set_row hb _ _ (Nat.le_refl _)⟩
end Go.Proofs.Ytcnmnpbipencmaa
