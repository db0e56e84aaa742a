/-
  Words and contracts that the laws lean on, bundled: OccM, ClassM, SymG, OccN, Mem, Ints, PermS, Blk, Asc.
-/
import Derived.Test.YthndeaodpjelgaaB1
import Derived.Below
import Derived.Laws.OwnMore
import Derived.Deep.AppendLies
import Derived.Deep.Draws
import Derived.WalkKit
import Derived.Test.YthndeaodpjelgaaProg
import Derived.Deep.QuietTactic
import Derived.BigQuiet
import Derived.Laws.Rows
import Derived.Laws.Tables

/-
  PLAIN: lists that stand alike; occurrences of a permutation in a permutation. Nothing here speaks of the program.
-/

namespace Go.Proofs.Ythndeaodpjelgaa
set_option maxRecDepth 100000

theorem at0_zero (a : Int) (l : List Int) : at0 (a :: l) 0 = a := rfl
theorem at0_succ (a : Int) (l : List Int) (i : Nat) : at0 (a :: l) (i + 1) = at0 l i := rfl
theorem at0_mem {l : List Int} {i : Nat} (h : i < l.length) : at0 l i ∈ l := List.mem_of_getElem? (at0_some h)
theorem at0_app {a b : List Int} {i : Nat} (h : i < a.length) : at0 (a ++ b) i = at0 a i := at0_of (by rw [List.getElem?_append_left h]; exact at0_some h)
theorem at0_last (a : List Int) (x : Int) : at0 (a ++ [x]) a.length = x := at0_of (by simp)
theorem at0_take {l : List Int} {i k : Nat} (h : i < k) (hl : i < l.length) : at0 (l.take k) i = at0 l i := at0_of (by rw [List.getElem?_take, if_pos h]; exact at0_some hl)
theorem ext_at0 {a b : List Int} (hl : a.length = b.length) (h : ∀ i, i < a.length → at0 a i = at0 b i) : a = b := by
  refine List.ext_getElem? fun i => ?_
  by_cases hi : i < a.length
  · rw [at0_some hi, at0_some (by omega), h i hi]
  · rw [List.getElem?_eq_none (by omega), List.getElem?_eq_none (by omega)]

/-- Two lists stand alike: their numbers are in the same order. -/
def Alike (v u : List Int) : Prop := v.length = u.length ∧ ∀ i j, i < v.length → j < v.length → (at0 v i < at0 v j ↔ at0 u i < at0 u j)
theorem cnt_pt : ∀ {v u : List Int} {x y : Int}, v.length = u.length → (∀ i, i < v.length → (at0 v i < x ↔ at0 u i < y)) → cnt v x = cnt u y
  | [], [], _, _, _, _ => rfl
  | [], _ :: _, _, _, h, _ => by simp at h
  | _ :: _, [], _, _, h, _ => by simp at h
  | a :: v, b :: u, x, y, h, hp => by
    have h0 := hp 0 (by simp)
    rw [at0_zero, at0_zero] at h0
    have ih := cnt_pt (v := v) (u := u) (x := x) (y := y) (by simpa using h) fun i hi => by
      have := hp (i + 1) (by simp; omega)
      rwa [at0_succ, at0_succ] at this
    rw [cnt_cons, cnt_cons, ih]
    by_cases hx : a < x
    · rw [if_pos hx, if_pos (h0.1 hx)]
    · rw [if_neg hx, if_neg (fun h => hx (h0.2 h))]
theorem patL_at0 {l : List Int} {i : Nat} (h : i < l.length) : at0 (patL l) i = 1 + (cnt l (at0 l i) : Int) := at0_of (patL_at (at0_some h))
theorem patL_alike {v u : List Int} (h : Alike v u) : patL v = patL u := by
  refine ext_at0 (by rw [patL_length, patL_length]; exact h.1) fun i hi => ?_
  rw [patL_length] at hi
  have hl := h.1
  rw [patL_at0 hi, patL_at0 (by omega), cnt_pt hl fun j hj => h.2 j i hj hi]
theorem cnt_iff {l : List Int} {a b : Int} (ha : a ∈ l) : a < b ↔ cnt l a < cnt l b := by
  constructor
  · intro h; have := cnt_lt ha h; omega
  · intro h
    by_cases hb : b ≤ a
    · have := cnt_mono l hb; omega
    · omega
theorem alike_patL {v u : List Int} (h : patL v = patL u) : Alike v u := by
  have hl : v.length = u.length := by have := congrArg List.length h; rwa [patL_length, patL_length] at this
  refine ⟨hl, fun i j hi hj => ?_⟩
  have e : ∀ k, k < v.length → cnt v (at0 v k) = cnt u (at0 u k) := fun k hk => by
    have h1 : at0 (patL v) k = at0 (patL u) k := by rw [h]
    rw [patL_at0 hk, patL_at0 (by omega)] at h1
    omega
  rw [cnt_iff (at0_mem hi), cnt_iff (l := u) (at0_mem (by omega)), e i hi, e j hj]
theorem patL_self {p : List Int} (h : isP p = true) : patL p = p := by
  refine ext_at0 (patL_length p) fun i hi => ?_
  rw [patL_length] at hi
  rw [patL_at0 hi, cnt_isP h (at0_mem hi)]
  omega
theorem Alike.symm {v u : List Int} (h : Alike v u) : Alike u v := ⟨h.1.symm, fun i j hi hj => (h.2 i j (by rw [h.1]; exact hi) (by rw [h.1]; exact hj)).symm⟩
theorem Alike.trans {a b c : List Int} (h : Alike a b) (k : Alike b c) : Alike a c := ⟨h.1.trans k.1, fun i j hi hj => (h.2 i j hi hj).trans (k.2 i j (by rw [← h.1]; exact hi) (by rw [← h.1]; exact hj))⟩
theorem alike_pat (v : List Int) : Alike (patL v) v := ⟨patL_length v, fun i j hi hj => by
  rw [patL_length] at hi hj
  rw [patL_at0 hi, patL_at0 hj, cnt_iff (at0_mem hi)]
  omega⟩
theorem pat_eq_iff {v q : List Int} (hq : isP q = true) : patL v = q ↔ Alike v q := by
  constructor
  · intro h; exact alike_patL (by rw [h, patL_self hq])
  · intro h; rw [patL_alike h, patL_self hq]
theorem isP_ne {p : List Int} (h : isP p = true) {i j : Nat} (hi : i < p.length) (hj : j < p.length) (hne : i ≠ j) : at0 p i ≠ at0 p j := fun e => hne (isP_same h (at0_some hi) (by rw [e]; exact at0_some hj))

/-! occurrences -/
/-- The numbers at places. -/
def nums (p pl : List Int) : List Int := pl.map fun x => at0 p (x.toNat - 1)
theorem nums_length (p pl : List Int) : (nums p pl).length = pl.length := by simp [nums]
theorem nums_at0 {p pl : List Int} {i : Nat} (h : i < pl.length) : at0 (nums p pl) i = at0 p ((at0 pl i).toNat - 1) := at0_of (by unfold nums; rw [List.getElem?_map, at0_some h]; rfl)
theorem nums_snoc (p pl : List Int) (x : Int) : nums p (pl ++ [x]) = nums p pl ++ [at0 p (x.toNat - 1)] := by simp [nums]
theorem nums_take (p pl : List Int) (k : Nat) : nums p (pl.take k) = (nums p pl).take k := by simp [nums, List.map_take]
def PlOK (n : Nat) (pl : List Int) : Prop := (∀ x ∈ pl, 1 ≤ x ∧ x ≤ (n : Int)) ∧ pl.Pairwise (· < ·)
instance (n : Nat) (pl : List Int) : Decidable (PlOK n pl) := inferInstanceAs (Decidable (_ ∧ _))
theorem PlOK.nil (n : Nat) : PlOK n [] := ⟨fun x hx => by simp at hx, List.Pairwise.nil⟩
theorem PlOK.take {n : Nat} {pl : List Int} (h : PlOK n pl) (k : Nat) : PlOK n (pl.take k) := ⟨fun x hx => h.1 x (List.mem_of_mem_take hx), h.2.sublist (List.take_sublist _ _)⟩
theorem PlOK.mono {n : Nat} {pl : List Int} (h : PlOK n pl) {i j : Nat} (hij : i < j) (hj : j < pl.length) : at0 pl i < at0 pl j := by
  have := List.pairwise_iff_getElem.1 h.2 i j (by omega) hj hij
  rw [at0_of (List.getElem?_eq_getElem (show i < pl.length by omega)), at0_of (List.getElem?_eq_getElem hj)]
  exact this
theorem PlOK.rng {n : Nat} {pl : List Int} (h : PlOK n pl) {i : Nat} (hi : i < pl.length) : 1 ≤ at0 pl i ∧ at0 pl i ≤ (n : Int) := h.1 _ (at0_mem hi)
theorem nums_ne {p pl : List Int} (hp : isP p = true) (h : PlOK p.length pl) {i j : Nat} (hi : i < pl.length) (hj : j < pl.length) (hne : i ≠ j) : at0 (nums p pl) i ≠ at0 (nums p pl) j := by
  have r1 := h.rng hi
  have r2 := h.rng hj
  have hm : at0 pl i ≠ at0 pl j := by
    rcases Nat.lt_or_ge i j with h1 | h1
    · have := h.mono h1 hj; omega
    · have := h.mono (show j < i by omega) hi; omega
  rw [nums_at0 hi, nums_at0 hj]
  exact isP_ne hp (by omega) (by omega) (by omega)
/-- The last one of some places agrees with a pattern. -/
def fitL (p q pl : List Int) : Bool := (List.range (pl.length - 1)).all fun k => decide (at0 q k < at0 q (pl.length - 1)) == decide (at0 (nums p pl) k < at0 (nums p pl) (pl.length - 1))
theorem fitL_iff {p q pl : List Int} : fitL p q pl = true ↔ ∀ k, k < pl.length - 1 → (at0 q k < at0 q (pl.length - 1) ↔ at0 (nums p pl) k < at0 (nums p pl) (pl.length - 1)) := by
  unfold fitL
  rw [List.all_eq_true]
  simp only [List.mem_range, beq_iff_eq, decide_eq_decide]
theorem fitL_yes {p q pl : List Int} (h : ∀ k, k < pl.length - 1 → decide (at0 q k < at0 q (pl.length - 1)) = decide (at0 (nums p pl) k < at0 (nums p pl) (pl.length - 1))) : fitL p q pl = true := by
  rw [fitL_iff]
  intro k hk
  exact decide_eq_decide.1 (h k hk)
theorem fitL_no {p q pl : List Int} {k : Nat} (hk : k < pl.length - 1) (h : decide (at0 q k < at0 q (pl.length - 1)) ≠ decide (at0 (nums p pl) k < at0 (nums p pl) (pl.length - 1))) : fitL p q pl = false := by
  cases hf : fitL p q pl with
  | false => rfl
  | true => exact absurd (decide_eq_decide.2 (fitL_iff.1 hf k hk)) h
theorem fits_alike {p q pl : List Int} (hp : isP p = true) (hq : isP q = true) (hl : pl.length = q.length) (h : PlOK p.length pl) : (∀ k, k < pl.length → fitL p q (pl.take (k + 1)) = true) ↔ Alike (nums p pl) q := by
  have hlt : ∀ k, k < pl.length → (pl.take (k + 1)).length = k + 1 := fun k hk => by rw [List.length_take]; omega
  have key : ∀ k, k < pl.length → (fitL p q (pl.take (k + 1)) = true ↔ ∀ i, i < k → (at0 q i < at0 q k ↔ at0 (nums p pl) i < at0 (nums p pl) k)) := fun k hk => by
    rw [fitL_iff, hlt k hk, Nat.add_sub_cancel, nums_take]
    have hpl := nums_length p pl
    constructor
    · intro h i hi
      have := h i hi
      rwa [at0_take (by omega) (by omega), at0_take (by omega) (by omega)] at this
    · intro h i hi
      rw [at0_take (by omega) (by omega), at0_take (by omega) (by omega)]
      exact h i hi
  constructor
  · intro hf
    refine ⟨by rw [nums_length]; exact hl, fun i j hi hj => ?_⟩
    rw [nums_length] at hi hj
    rcases Nat.lt_trichotomy i j with h1 | h1 | h1
    · exact ((key j hj).1 (hf j hj) i h1).symm
    · subst h1; exact ⟨fun h => by omega, fun h => by omega⟩
    · have h2 := (key i hi).1 (hf i hi) j h1
      have n1 := nums_ne hp h hi hj (by omega)
      have n2 := isP_ne hq (i := i) (j := j) (by omega) (by omega) (by omega)
      constructor
      · intro h3; by_cases h4 : at0 q j < at0 q i
        · have := h2.1 h4; omega
        · omega
      · intro h3; by_cases h4 : at0 (nums p pl) j < at0 (nums p pl) i
        · have := h2.2 h4; omega
        · omega
  · intro ha k hk
    rw [key k hk]
    intro i hi
    exact (ha.2 i k (by rw [nums_length]; omega) (by rw [nums_length]; omega)).symm

/-- The last place, or none. -/
def lastP (head : List Int) : Nat := (head.getLast?.getD 0).toNat
theorem lastP_nil : lastP [] = 0 := rfl
theorem lastP_snoc (head : List Int) (x : Int) : lastP (head ++ [x]) = x.toNat := by simp [lastP]
theorem lastP_at {head : List Int} (h : 0 < head.length) : lastP head = (at0 head (head.length - 1)).toNat := by
  unfold lastP
  rw [List.getLast?_eq_getElem?, at0_some (by omega)]; rfl
theorem lastP_le {n : Nat} {head : List Int} (h : PlOK n head) : lastP head ≤ n := by
  cases head with
  | nil => rw [lastP_nil]; omega
  | cons a l =>
    rw [lastP_at (by simp)]
    have := h.rng (i := (a :: l).length - 1) (by simp)
    omega
theorem PlOK.snoc {n : Nat} {head : List Int} {x : Int} : PlOK n (head ++ [x]) ↔ PlOK n head ∧ (lastP head : Int) < x ∧ x ≤ (n : Int) := by
  unfold PlOK
  rw [List.pairwise_append]
  constructor
  · rintro ⟨h1, h2, _, h3⟩
    refine ⟨⟨fun y hy => h1 y (by simp [hy]), h2⟩, ?_, (h1 x (by simp)).2⟩
    by_cases h0 : 0 < head.length
    · have h4 := h3 (at0 head (head.length - 1)) (at0_mem (by omega)) x (by simp)
      have h5 := h1 x (by simp)
      rw [lastP_at h0]; omega
    · have : head = [] := List.eq_nil_of_length_eq_zero (by omega)
      subst this
      have h5 := h1 x (by simp)
      rw [lastP_nil]; omega
  · rintro ⟨h1, h2, h3⟩
    refine ⟨fun y hy => ?_, h1.2, by simp, fun a ha b hb => ?_⟩
    · rcases List.mem_append.1 hy with h | h
      · exact h1.1 y h
      · simp at h; subst h; omega
    · simp at hb; subst hb
      have hr := h1.1 a ha
      obtain ⟨i, hi, rfl⟩ := List.getElem_of_mem ha
      have h0 : 0 < head.length := by omega
      have e : at0 head i = head[i] := at0_of (List.getElem?_eq_getElem hi)
      have : at0 head i ≤ at0 head (head.length - 1) := by
        by_cases hh : i = head.length - 1
        · rw [← hh]; exact Int.le_refl _
        · have := PlOK.mono (n := n) h1 (i := i) (j := head.length - 1) (by omega) (by omega); omega
      rw [lastP_at h0] at h2
      have hr2 := PlOK.rng (n := n) h1 (i := head.length - 1) (by omega)
      omega

/-- The occurrences that begin with head and have m places more. -/
def extL (p q : List Int) : Nat → List Int → List (List Int)
  | 0, head => [head]
  | m + 1, head => (List.range (p.length - lastP head)).flatMap fun i => if fitL p q (head ++ [((lastP head + i + 1 : Nat) : Int)]) then extL p q m (head ++ [((lastP head + i + 1 : Nat) : Int)]) else []
/-- .. of the first j of the next places. -/
def extK (p q : List Int) (m : Nat) (head : List Int) (j : Nat) : List (List Int) := (List.range j).flatMap fun i => if fitL p q (head ++ [((lastP head + i + 1 : Nat) : Int)]) then extL p q m (head ++ [((lastP head + i + 1 : Nat) : Int)]) else []
theorem extK_all (p q : List Int) (m : Nat) (head : List Int) : extK p q m head (p.length - lastP head) = extL p q (m + 1) head := rfl
theorem extK_zero (p q : List Int) (m : Nat) (head : List Int) : extK p q m head 0 = [] := rfl
theorem extK_yes {p q : List Int} {m : Nat} {head : List Int} {j : Nat} (h : fitL p q (head ++ [((lastP head + j + 1 : Nat) : Int)]) = true) : extK p q m head (j + 1) = extK p q m head j ++ extL p q m (head ++ [((lastP head + j + 1 : Nat) : Int)]) := by
  unfold extK
  rw [List.range_succ, List.flatMap_append, List.flatMap_cons, List.flatMap_nil, List.append_nil, if_pos h]
theorem extK_no {p q : List Int} {m : Nat} {head : List Int} {j : Nat} (h : fitL p q (head ++ [((lastP head + j + 1 : Nat) : Int)]) = false) : extK p q m head (j + 1) = extK p q m head j := by
  unfold extK
  rw [List.range_succ, List.flatMap_append, List.flatMap_cons, List.flatMap_nil, List.append_nil, if_neg (by rw [h]; exact Bool.false_ne_true), List.append_nil]
theorem mem_extL {p q : List Int} : ∀ (m : Nat) (head pl : List Int), PlOK p.length head → (pl ∈ extL p q m head ↔ ∃ tl, pl = head ++ tl ∧ tl.length = m ∧ PlOK p.length pl ∧ ∀ k, head.length ≤ k → k < pl.length → fitL p q (pl.take (k + 1)) = true)
  | 0, head, pl, h => by
    rw [extL, List.mem_singleton]
    constructor
    · rintro rfl
      exact ⟨[], by simp, rfl, h, fun k h1 h2 => by omega⟩
    · rintro ⟨tl, rfl, h1, _⟩
      rw [List.eq_nil_of_length_eq_zero h1, List.append_nil]
  | m + 1, head, pl, h => by
    have hle := lastP_le h
    rw [extL, List.mem_flatMap]
    constructor
    · rintro ⟨i, hi, hm⟩
      rw [List.mem_range] at hi
      by_cases hf : fitL p q (head ++ [((lastP head + i + 1 : Nat) : Int)]) = true
      · rw [if_pos hf] at hm
        have hh : PlOK p.length (head ++ [((lastP head + i + 1 : Nat) : Int)]) := PlOK.snoc.2 ⟨h, by omega, by omega⟩
        obtain ⟨tl, rfl, h1, h2, h3⟩ := (mem_extL m _ pl hh).1 hm
        refine ⟨((lastP head + i + 1 : Nat) : Int) :: tl, by rw [List.append_assoc]; rfl, by simp [h1], h2, fun k hk1 hk2 => ?_⟩
        by_cases hk : k = head.length
        · subst hk
          rw [List.take_append_of_le_length (by simp), List.take_of_length_le (by simp)]
          exact hf
        · exact h3 k (by simp; omega) hk2
      · rw [if_neg hf] at hm; cases hm
    · rintro ⟨tl, rfl, h1, h2, h3⟩
      match tl, h1 with
      | x :: tl, h1 =>
        have hx : PlOK p.length (head ++ [x]) := by
          have := h2.take (head.length + 1)
          rwa [show head ++ x :: tl = head ++ [x] ++ tl by simp, List.take_append_of_le_length (by simp), List.take_of_length_le (by simp)] at this
        obtain ⟨_, hx1, hx2⟩ := PlOK.snoc.1 hx
        have hxe : ((lastP head + (x.toNat - lastP head - 1) + 1 : Nat) : Int) = x := by omega
        refine ⟨x.toNat - lastP head - 1, List.mem_range.2 (by omega), ?_⟩
        rw [hxe]
        have hf := h3 head.length (Nat.le_refl _) (by simp)
        rw [show head ++ x :: tl = head ++ [x] ++ tl by simp, List.take_append_of_le_length (by simp), List.take_of_length_le (by simp)] at hf
        rw [if_pos hf, mem_extL m _ _ hx]
        exact ⟨tl, by simp, by simpa using h1, h2, fun k hk1 hk2 => h3 k (by simp at hk1; omega) hk2⟩
theorem extL_len {p q : List Int} : ∀ (m : Nat) (head pl : List Int), pl ∈ extL p q m head → pl.length = head.length + m
  | 0, head, pl, h => by rw [extL, List.mem_singleton] at h; subst h; rfl
  | m + 1, head, pl, h => by
    rw [extL, List.mem_flatMap] at h
    obtain ⟨i, _, h⟩ := h
    by_cases hf : fitL p q (head ++ [((lastP head + i + 1 : Nat) : Int)]) = true
    · rw [if_pos hf] at h
      have := extL_len m _ pl h
      simp at this; omega
    · rw [if_neg hf] at h; cases h
theorem extL_pre {p q : List Int} : ∀ (m : Nat) (head pl : List Int), pl ∈ extL p q m head → ∃ tl, pl = head ++ tl
  | 0, head, pl, h => by rw [extL, List.mem_singleton] at h; subst h; exact ⟨[], by simp⟩
  | m + 1, head, pl, h => by
    rw [extL, List.mem_flatMap] at h
    obtain ⟨i, _, h⟩ := h
    by_cases hf : fitL p q (head ++ [((lastP head + i + 1 : Nat) : Int)]) = true
    · rw [if_pos hf] at h
      obtain ⟨tl, rfl⟩ := extL_pre m _ pl h
      exact ⟨_ :: tl, by simp; rfl⟩
    · rw [if_neg hf] at h; cases h
theorem lexL_app (h : List Int) (a b : List Int) : lexL (h ++ a) (h ++ b) = lexL a b := by
  induction h with
  | nil => rfl
  | cons x h ih => rw [List.cons_append, List.cons_append, lexL, if_pos rfl, ih]
theorem extL_asc {p q : List Int} : ∀ (m : Nat) (head : List Int), Asc (extL p q m head)
  | 0, head => by rw [extL]; exact List.pairwise_singleton _ _
  | m + 1, head => by
    rw [extL]
    unfold Asc
    rw [List.pairwise_flatMap]
    constructor
    · intro i _
      split
      · exact extL_asc m _
      · exact List.Pairwise.nil
    · refine List.Pairwise.imp ?_ List.pairwise_lt_range
      intro i j hij x hx y hy
      split at hx
      · split at hy
        · have l1 := extL_len m _ x hx
          have l2 := extL_len m _ y hy
          obtain ⟨t, rfl⟩ := extL_pre m _ x hx
          obtain ⟨s, rfl⟩ := extL_pre m _ y hy
          simp only [List.length_append, List.length_singleton] at l1 l2
          rw [befL_eq (by simp; omega), List.append_assoc, List.append_assoc, lexL_app, List.singleton_append, List.singleton_append, lexL, if_neg (by omega)]
          simp; omega
        · cases hy
      · cases hx
/-- The occurrences of q in p. -/
def occR (p q : List Int) : List (List Int) := if isP p && isP q then extL p q q.length [] else []
theorem occR_yes {p q : List Int} (hp : isP p = true) (hq : isP q = true) : occR p q = extL p q q.length [] := by unfold occR; rw [if_pos (by simp [hp, hq])]
theorem occR_no {p q : List Int} (h : isP p = false ∨ isP q = false) : occR p q = [] := by
  unfold occR
  rw [if_neg (by rcases h with h | h <;> simp [h])]
def isOcc (p q pl : List Int) : Bool := isP p && (isP q && (decide (pl.length = q.length) && (decide (PlOK p.length pl) && decide (patL (nums p pl) = q))))
theorem isOcc_iff {p q pl : List Int} : isOcc p q pl = true ↔ isP p = true ∧ isP q = true ∧ pl.length = q.length ∧ PlOK p.length pl ∧ patL (nums p pl) = q := by
  unfold isOcc
  simp only [Bool.and_eq_true, decide_eq_true_eq]
theorem mem_occ {p q pl : List Int} : pl ∈ occR p q ↔ isOcc p q pl = true := by
  rw [isOcc_iff]
  cases hp : isP p with
  | false => rw [occR_no (.inl hp)]; simp
  | true =>
    cases hq : isP q with
    | false => rw [occR_no (.inr hq)]; simp
    | true =>
      rw [occR_yes hp hq, mem_extL q.length [] pl (PlOK.nil _)]
      constructor
      · rintro ⟨tl, rfl, h1, h2, h3⟩
        exact ⟨rfl, rfl, h1, h2, (pat_eq_iff hq).2 ((fits_alike hp hq h1 h2).1 fun k hk => h3 k (Nat.zero_le _) hk)⟩
      · rintro ⟨_, _, h1, h2, h3⟩
        exact ⟨pl, by simp, h1, h2, fun k _ hk => (fits_alike hp hq h1 h2).2 ((pat_eq_iff hq).1 h3) k hk⟩
theorem occ_asc (p q : List Int) : Asc (occR p q) := by
  unfold occR
  split
  · exact extL_asc _ _
  · exact List.Pairwise.nil
end Go.Proofs.Ythndeaodpjelgaa


/-
  PLAIN: classes by their bases. Nothing here speaks of the program.
-/

namespace Go.Proofs.Ythndeaodpjelgaa
set_option maxRecDepth 100000

/-- q occurs in p (both permutations). -/
def hasO (p q : List Int) : Bool := decide (0 < (extL p q q.length []).length)
/-- None of the list occurs in p. -/
def avo (list : List (List Int)) (p : List Int) : Bool := list.all fun q => !hasO p q
theorem avo_yes {list : List (List Int)} {p : List Int} : avo list p = true ↔ ∀ q ∈ list, hasO p q = false := by unfold avo; simp
theorem avo_no {list : List (List Int)} {p q : List Int} (hq : q ∈ list) (h : hasO p q = true) : avo list p = false := by
  cases h1 : avo list p with
  | false => rfl
  | true => rw [avo_yes.1 h1 q hq] at h; cases h
theorem avo_nil (p : List Int) : avo [] p = true := rfl
theorem avo_step {list : List (List Int)} {p q : List Int} {k : Nat} (h : list[k]? = some q) (hq : hasO p q = false) (hk : avo (list.take k) p = true) : avo (list.take (k + 1)) p = true := by
  rw [List.take_add_one, h]
  exact avo_yes.2 fun x hx => by
    rcases List.mem_append.1 hx with hx | hx
    · exact avo_yes.1 hk x hx
    · simp at hx; subst hx; exact hq
/-- What IsBasis asks of its k-th list. -/
def basAt (L : List (List Int)) (k : Nat) : Bool := isP (L.getD k []) && decide ((L.getD k []).length ≠ 0) && (decide (k = 0) || befL (L.getD (k - 1) []) (L.getD k [])) && avo (L.take k) (L.getD k [])
def basis (L : List (List Int)) : Bool := (List.range L.length).all (basAt L) && decide (L.length ≤ 8)
def BasTo (L : List (List Int)) (k : Nat) : Prop := ∀ i, i < k → basAt L i = true
theorem BasTo.zero (L : List (List Int)) : BasTo L 0 := fun i hi => absurd hi (by omega)
theorem BasTo.step {L : List (List Int)} {k : Nat} (h : BasTo L k) (hk : basAt L k = true) : BasTo L (k + 1) := fun i hi => by
  by_cases h1 : i < k
  · exact h i h1
  · rw [show i = k by omega]; exact hk
theorem BasTo.end_ {L : List (List Int)} (h : BasTo L L.length) : basis L = decide (L.length ≤ 8) := by
  unfold basis
  rw [show (List.range L.length).all (basAt L) = true by rw [List.all_eq_true]; exact fun i hi => h i (List.mem_range.1 hi)]
  rfl
theorem basis_no {L : List (List Int)} {k : Nat} (hk : k < L.length) (h : basAt L k = false) : basis L = false := by
  unfold basis
  rw [show (List.range L.length).all (basAt L) = false by rw [List.all_eq_false]; exact ⟨k, List.mem_range.2 hk, by simp [h]⟩]
  rfl
theorem getD_row {L : List (List Int)} {k : Nat} {z : List Int} (h : L[k]? = some z) : L.getD k [] = z := by rw [List.getD_eq_getElem?_getD, h]; rfl
theorem basAt_at {L : List (List Int)} {k : Nat} {z : List Int} (h : L[k]? = some z) : basAt L k = (isP z && decide (z.length ≠ 0) && (decide (k = 0) || befL (L.getD (k - 1) []) z) && avo (L.take k) z) := by unfold basAt; rw [getD_row h]
theorem basAt_isP {L : List (List Int)} {k : Nat} {z : List Int} (h : L[k]? = some z) (hb : basAt L k = true) : isP z = true ∧ z.length ≠ 0 := by
  rw [basAt_at h] at hb
  simp only [Bool.and_eq_true, decide_eq_true_eq] at hb
  exact ⟨hb.1.1.1, hb.1.1.2⟩
theorem BasTo.isP {L : List (List Int)} {k : Nat} (h : BasTo L k) {i : Nat} {z : List Int} (hi : i < k) (hz : L[i]? = some z) : isP z = true := (basAt_isP hz (h i hi)).1
theorem basis_le {L : List (List Int)} (h : basis L = true) : L.length ≤ 8 := by
  unfold basis at h
  simp only [Bool.and_eq_true, decide_eq_true_eq] at h
  exact h.2
theorem basis_isP {L : List (List Int)} (h : basis L = true) : ∀ z ∈ L, isP z = true ∧ z.length ≠ 0 := fun z hz => by
  unfold basis at h
  simp only [Bool.and_eq_true] at h
  obtain ⟨i, hi, rfl⟩ := List.getElem_of_mem hz
  exact basAt_isP (List.getElem?_eq_getElem hi) (List.all_eq_true.1 h.1 i (List.mem_range.2 hi))
/-- InClass, ClassOf. -/
def inC (L : List (List Int)) (p : List Int) : Bool := basis L && isP p && avo L p
def clsN (L : List (List Int)) (n : Nat) : List (List Int) := (permL n).filter (avo L)
def clsO (L : List (List Int)) (m : Int) : List (List Int) := if basis L = true ∧ 0 ≤ m ∧ m ≤ 6 then clsN L m.toNat else []
/-- The first k lists, those that fit. -/
def sift (g : List Int → Bool) (Z : List (List Int)) (k : Nat) : List (List Int) := (Z.take k).filter g
theorem sift_yes {g : List Int → Bool} {Z : List (List Int)} {k : Nat} {z : List Int} (h : Z[k]? = some z) (hg : g z = true) : sift g Z (k + 1) = sift g Z k ++ [z] := by
  unfold sift
  rw [List.take_add_one, h, List.filter_append]
  simp [hg]
theorem sift_no {g : List Int → Bool} {Z : List (List Int)} {k : Nat} {z : List Int} (h : Z[k]? = some z) (hg : g z = false) : sift g Z (k + 1) = sift g Z k := by
  unfold sift
  rw [List.take_add_one, h, List.filter_append]
  simp [hg]
theorem sift_le (g : List Int → Bool) (Z : List (List Int)) (k : Nat) : (sift g Z k).length ≤ k := by
  unfold sift
  exact Nat.le_trans (List.length_filter_le _ _) (by rw [List.length_take]; omega)
theorem sift_all (g : List Int → Bool) (Z : List (List Int)) : sift g Z Z.length = Z.filter g := by unfold sift; rw [List.take_length]
/-- MakeBasis: what none of those kept before occurs in. -/
def mkK (Z : List (List Int)) : Nat → List (List Int)
  | 0 => []
  | k + 1 => if avo (mkK Z k) (Z.getD k []) then mkK Z k ++ [Z.getD k []] else mkK Z k
theorem mkK_yes {Z : List (List Int)} {k : Nat} {z : List Int} (h : Z[k]? = some z) (ha : avo (mkK Z k) z = true) : mkK Z (k + 1) = mkK Z k ++ [z] := by rw [mkK, getD_row h, if_pos ha]
theorem mkK_no {Z : List (List Int)} {k : Nat} {z : List Int} (h : Z[k]? = some z) (ha : avo (mkK Z k) z = false) : mkK Z (k + 1) = mkK Z k := by rw [mkK, getD_row h, if_neg (by simp [ha])]
theorem mkK_le (Z : List (List Int)) : ∀ k, (mkK Z k).length ≤ k
  | 0 => Nat.le_refl _
  | k + 1 => by
    have := mkK_le Z k
    rw [mkK]
    split
    · rw [List.length_append, List.length_singleton]; omega
    · omega
theorem mkK_mem {Z : List (List Int)} : ∀ k, k ≤ Z.length → ∀ x ∈ mkK Z k, x ∈ Z
  | 0, _, x, hx => by cases hx
  | k + 1, hk, x, hx => by
    have h1 : Z[k]? = some (Z.getD k []) := by rw [List.getD_eq_getElem?_getD, List.getElem?_eq_getElem (by omega)]; rfl
    rw [mkK] at hx
    split at hx
    · rcases List.mem_append.1 hx with hx | hx
      · exact mkK_mem k (by omega) x hx
      · obtain rfl := List.mem_singleton.1 hx
        exact List.mem_of_getElem? h1
    · exact mkK_mem k (by omega) x hx
def mkO (L : List (List Int)) : List (List Int) := mkK (ordR L) (ordR L).length
def mkOK (L : List (List Int)) : Bool := allP L && basis (mkO L)
def mkR (L : List (List Int)) : List (List Int) := if mkOK L then mkO L else []
theorem mkR_yes {L : List (List Int)} (h : mkOK L = true) : mkR L = mkO L := by unfold mkR; rw [if_pos h]
theorem mkR_no {L : List (List Int)} (h : mkOK L = false) : mkR L = [] := by unfold mkR; rw [if_neg (by simp [h])]
end Go.Proofs.Ythndeaodpjelgaa


/-
  PLAIN: the eight symmetries are a group of eight; classes are the same for their elements; their sizes divide eight.
-/

namespace Go.Proofs.Ythndeaodpjelgaa
set_option maxRecDepth 100000

def invL (p : List Int) : List Int := invFill p p.length
theorem invL_length (p : List Int) : (invL p).length = p.length := invFill_length p _
theorem invL_isP {p : List Int} (h : isP p = true) : isP (invL p) = true := isP_inv h
theorem invL_at {p : List Int} (h : isP p = true) {i : Nat} {z : Int} (hi : i < p.length) (hz : p[i]? = some z) : (invL p)[z.toNat - 1]? = some ((i : Int) + 1) :=
  invFill_at (isP_true.1 h).2.1 (isP_true.1 h).2.2 p.length i z hi (Nat.le_refl _) hz
/-- What is at a place of the inverse. -/
theorem invL_get {p : List Int} (h : isP p = true) {j : Nat} (hj : j < p.length) : ∃ i, i < p.length ∧ p[i]? = some ((j : Int) + 1) ∧ (invL p)[j]? = some ((i : Int) + 1) := by
  have hin := (nodup_iff_all (isP_true.1 h).2.1).1 (isP_true.1 h).2.2 j hj
  obtain ⟨i, hi, he⟩ := List.getElem_of_mem hin
  have h1 : p[i]? = some ((j : Int) + 1) := by rw [List.getElem?_eq_getElem hi, he]
  refine ⟨i, hi, h1, ?_⟩
  have := invL_at h hi h1
  rwa [show ((j : Int) + 1).toNat - 1 = j by omega] at this
/-- A list is the inverse if it has the inverse's places. -/
theorem invL_of {p q : List Int} (h : isP p = true) (hl : q.length = p.length) (hq : ∀ (i : Nat) (z : Int), p[i]? = some z → q[z.toNat - 1]? = some ((i : Int) + 1)) : invL p = q := by
  refine List.ext_getElem? fun j => ?_
  by_cases hj : j < p.length
  · obtain ⟨i, hi, h1, h2⟩ := invL_get h hj
    have := hq i _ h1
    rw [show ((j : Int) + 1).toNat - 1 = j by omega] at this
    rw [h2, this]
  · rw [List.getElem?_eq_none (by rw [invL_length]; omega), List.getElem?_eq_none (by omega)]
theorem inv_inv {p : List Int} (h : isP p = true) : invL (invL p) = p := by
  refine invL_of (invL_isP h) (invL_length p).symm fun j z hz => ?_
  have hj : j < p.length := by have := (List.getElem?_eq_some_iff.1 hz).1; rwa [invL_length] at this
  obtain ⟨i, hi, h1, h2⟩ := invL_get h hj
  rw [h2] at hz
  obtain rfl := Option.some.inj hz
  rw [show ((i : Int) + 1).toNat - 1 = i by omega, h1]
theorem inv_rev {p : List Int} (h : isP p = true) : invL p.reverse = cplL (invL p) := by
  refine invL_of (isP_rev h) (by rw [cplL_length, invL_length, List.length_reverse]) fun i z hz => ?_
  have hi : i < p.length := by have := (List.getElem?_eq_some_iff.1 hz).1; rwa [List.length_reverse] at this
  rw [List.getElem?_reverse hi] at hz
  have h1 := invL_at h (by omega) hz
  rw [cplL_at h1, invL_length]
  congr 1
  omega
theorem inv_cpl {p : List Int} (h : isP p = true) : invL (cplL p) = (invL p).reverse := by
  refine invL_of (isP_cpl h) (by rw [cplL_length, List.length_reverse, invL_length]) fun i z hz => ?_
  have hi : i < p.length := by have := (List.getElem?_eq_some_iff.1 hz).1; rwa [cplL_length] at this
  have hp := at0_some hi
  rw [cplL_at hp] at hz
  obtain rfl := Option.some.inj hz
  have hr := isP_range h hp
  have h1 := invL_at h hi hp
  rw [List.getElem?_reverse (by rw [invL_length]; omega), invL_length]
  rw [show p.length - 1 - (((p.length : Int) + 1 - at0 p i).toNat - 1) = (at0 p i).toNat - 1 by omega]
  exact h1
theorem cpl_rev (p : List Int) : cplL p.reverse = (cplL p).reverse := by
  unfold cplL
  rw [List.length_reverse, List.map_reverse]

/-- The steps on the numbers of the symmetries. -/
def sI (k : Nat) : Nat := (if 4 ≤ k then 2 else 0) + (if k / 2 % 2 = 1 then 4 else 0) + (if k % 2 = 1 then 0 else 1)
def sR (k : Nat) : Nat := if k / 2 % 2 = 1 then k - 2 else k + 2
def sC (k : Nat) : Nat := if 4 ≤ k then k - 4 else k + 4
def mulS (k j : Nat) : Nat :=
  let a := if j % 2 = 1 then sI k else k
  let b := if j / 2 % 2 = 1 then sR a else a
  if 4 ≤ j then sC b else b
theorem mulS_lt : ∀ k, k < 8 → ∀ j, j < 8 → mulS k j < 8 := by decide
theorem sym_list (p : List Int) : symL p 0 = p ∧ symL p 1 = invL p ∧ symL p 2 = p.reverse ∧ symL p 3 = (invL p).reverse ∧ symL p 4 = cplL p ∧ symL p 5 = cplL (invL p) ∧ symL p 6 = cplL p.reverse ∧ symL p 7 = cplL (invL p).reverse := by
  refine ⟨?_, ?_, ?_, ?_, ?_, ?_, ?_, ?_⟩ <;> simp [symL, sym2, sym1, invL]
theorem inv_sym {p : List Int} (h : isP p = true) : ∀ k, k < 8 → invL (symL p k) = symL p (sI k) := by
  obtain ⟨e0, e1, e2, e3, e4, e5, e6, e7⟩ := sym_list p
  have hi := invL_isP h
  intro k hk
  rcases (show k = 0 ∨ k = 1 ∨ k = 2 ∨ k = 3 ∨ k = 4 ∨ k = 5 ∨ k = 6 ∨ k = 7 by omega) with rfl | rfl | rfl | rfl | rfl | rfl | rfl | rfl
  · rw [e0, show sI 0 = 1 from rfl, e1]
  · rw [e1, show sI 1 = 0 from rfl, e0, inv_inv h]
  · rw [e2, show sI 2 = 5 from rfl, e5, inv_rev h]
  · rw [e3, show sI 3 = 4 from rfl, e4, inv_rev hi, inv_inv h]
  · rw [e4, show sI 4 = 3 from rfl, e3, inv_cpl h]
  · rw [e5, show sI 5 = 2 from rfl, e2, inv_cpl hi, inv_inv h]
  · rw [e6, show sI 6 = 7 from rfl, e7, inv_cpl (isP_rev h), inv_rev h, cpl_rev]
  · rw [e7, show sI 7 = 6 from rfl, e6, inv_cpl (isP_rev hi), inv_rev hi, inv_inv h, cpl_rev]
theorem rev_sym (p : List Int) : ∀ k, k < 8 → (symL p k).reverse = symL p (sR k) := by
  obtain ⟨e0, e1, e2, e3, e4, e5, e6, e7⟩ := sym_list p
  intro k hk
  rcases (show k = 0 ∨ k = 1 ∨ k = 2 ∨ k = 3 ∨ k = 4 ∨ k = 5 ∨ k = 6 ∨ k = 7 by omega) with rfl | rfl | rfl | rfl | rfl | rfl | rfl | rfl
  · rw [e0, show sR 0 = 2 from rfl, e2]
  · rw [e1, show sR 1 = 3 from rfl, e3]
  · rw [e2, show sR 2 = 0 from rfl, e0, List.reverse_reverse]
  · rw [e3, show sR 3 = 1 from rfl, e1, List.reverse_reverse]
  · rw [e4, show sR 4 = 6 from rfl, e6, cpl_rev]
  · rw [e5, show sR 5 = 7 from rfl, e7, cpl_rev]
  · rw [e6, show sR 6 = 4 from rfl, e4, cpl_rev, List.reverse_reverse]
  · rw [e7, show sR 7 = 5 from rfl, e5, cpl_rev, List.reverse_reverse]
theorem cpl_sym (p : List Int) : ∀ k, k < 8 → cplL (symL p k) = symL p (sC k) := by
  obtain ⟨e0, e1, e2, e3, e4, e5, e6, e7⟩ := sym_list p
  intro k hk
  rcases (show k = 0 ∨ k = 1 ∨ k = 2 ∨ k = 3 ∨ k = 4 ∨ k = 5 ∨ k = 6 ∨ k = 7 by omega) with rfl | rfl | rfl | rfl | rfl | rfl | rfl | rfl
  · rw [e0, show sC 0 = 4 from rfl, e4]
  · rw [e1, show sC 1 = 5 from rfl, e5]
  · rw [e2, show sC 2 = 6 from rfl, e6]
  · rw [e3, show sC 3 = 7 from rfl, e7]
  · rw [e4, show sC 4 = 0 from rfl, e0, cpl_cpl]
  · rw [e5, show sC 5 = 1 from rfl, e1, cpl_cpl]
  · rw [e6, show sC 6 = 2 from rfl, e2, cpl_cpl]
  · rw [e7, show sC 7 = 3 from rfl, e3, cpl_cpl]
theorem sI_lt : ∀ k, k < 8 → sI k < 8 := by decide
theorem sR_lt : ∀ k, k < 8 → sR k < 8 := by decide
/-- A symmetry of a symmetry. -/
theorem sym_sym {p : List Int} (h : isP p = true) {k j : Nat} (hk : k < 8) (_hj : j < 8) : symL (symL p k) j = symL p (mulS k j) := by
  have e1 : sym1 (symL p k) j = symL p (if j % 2 = 1 then sI k else k) := by
    unfold sym1
    split
    · exact inv_sym h k hk
    · rfl
  have l1 : (if j % 2 = 1 then sI k else k) < 8 := by
    split
    · exact sI_lt k hk
    · exact hk
  have e2 : sym2 (symL p k) j = symL p (if j / 2 % 2 = 1 then sR (if j % 2 = 1 then sI k else k) else (if j % 2 = 1 then sI k else k)) := by
    unfold sym2
    rw [e1]
    by_cases hb : j / 2 % 2 = 1
    · rw [if_pos hb, if_pos hb]; exact rev_sym p _ l1
    · rw [if_neg hb, if_neg hb]
  have l2 : (if j / 2 % 2 = 1 then sR (if j % 2 = 1 then sI k else k) else (if j % 2 = 1 then sI k else k)) < 8 := by
    by_cases hb : j / 2 % 2 = 1
    · rw [if_pos hb]; exact sR_lt _ l1
    · rw [if_neg hb]; exact l1
  have e3 : symL (symL p k) j = if 4 ≤ j then cplL (sym2 (symL p k) j) else sym2 (symL p k) j := rfl
  rw [e3, e2]
  by_cases hb : 4 ≤ j
  · rw [if_pos hb, cpl_sym p _ l2]
    congr 1
    simp only [mulS]
    rw [if_pos hb]
  · rw [if_neg hb]
    congr 1
    simp only [mulS]
    rw [if_neg hb]
theorem mulS_onto : ∀ k, k < 8 → ∀ i, i < 8 → ∃ j, j < 8 ∧ mulS k j = i := by decide
theorem mem_imgs {p x : List Int} : x ∈ imgs p 8 ↔ ∃ j, j < 8 ∧ symL p j = x := by
  unfold imgs
  simp [List.mem_map, List.mem_range]
theorem mem_cls {p x : List Int} (h : isP p = true) : x ∈ clsR p ↔ ∃ j, j < 8 ∧ symL p j = x := by
  rw [clsR_yes h, ordR_yes (imgs_all h 8), ordL_mem, List.take_length, mem_imgs]
theorem asc_cls {p : List Int} (h : isP p = true) : Asc (clsR p) := by
  rw [clsR_yes h, ordR_yes (imgs_all h 8)]
  exact ordL_asc _ _
theorem cls_sym {p : List Int} (h : isP p = true) {k : Nat} (hk : k < 8) : clsR (symL p k) = clsR p := by
  refine asc_unique (asc_cls (symL_isP h k)) (asc_cls h) fun x => ?_
  rw [mem_cls (symL_isP h k), mem_cls h]
  constructor
  · rintro ⟨j, hj, rfl⟩
    exact ⟨mulS k j, mulS_lt k hk j hj, (sym_sym h hk hj).symm⟩
  · rintro ⟨i, hi, rfl⟩
    obtain ⟨j, hj, e⟩ := mulS_onto k hk i hi
    exact ⟨j, hj, by rw [sym_sym h hk hj, e]⟩
/-- The number of the inverse symmetry. -/
def invS (k : Nat) : Nat := if k = 3 then 5 else if k = 5 then 3 else k
theorem mulS_inv : ∀ k, k < 8 → mulS k (invS k) = 0 := by decide
theorem invS_lt : ∀ k, k < 8 → invS k < 8 := by decide
theorem mulS_back : ∀ k, k < 8 → ∀ j, j < 8 → mulS (mulS j (invS k)) k = j := by decide
theorem mulS_zero : ∀ k, k < 8 → mulS 0 k = k := by decide
/-- Two images are the same exactly if one symmetry leaves the permutation as it is. -/
theorem sym_eq {p : List Int} (h : isP p = true) {i j : Nat} (hi : i < 8) (hj : j < 8) : symL p i = symL p j ↔ symL p (mulS j (invS i)) = p := by
  have hii := invS_lt i hi
  constructor
  · intro e
    rw [← sym_sym h hj hii, ← e, sym_sym h hi hii, mulS_inv i hi]
    exact (sym_list p).1
  · intro e
    have h2 := mulS_lt j hj _ hii
    have h3 := sym_sym h h2 hi
    rw [e, mulS_back i hi j hj] at h3
    exact h3
/-- The numbers of the first images. -/
def firsts (e : Nat → Bool) : List Nat := (List.range 8).filter fun j => (List.range j).all fun i => !e (mulS j (invS i))
def tab (b0 b1 b2 b3 b4 b5 b6 b7 : Bool) (k : Nat) : Bool := [b0, b1, b2, b3, b4, b5, b6, b7].getD k false
theorem div8 : ∀ b1 b2 b3 b4 b5 b6 b7 : Bool, (∀ i, i < 8 → ∀ j, j < 8 → tab true b1 b2 b3 b4 b5 b6 b7 i = true → tab true b1 b2 b3 b4 b5 b6 b7 j = true → tab true b1 b2 b3 b4 b5 b6 b7 (mulS i j) = true) →
    8 % (firsts (tab true b1 b2 b3 b4 b5 b6 b7)).length = 0 := by decide +kernel
theorem cls_div {p : List Int} (h : isP p = true) : 0 < (clsR p).length ∧ 8 % (clsR p).length = 0 := by
  refine ⟨List.length_pos_iff.2 (clsR_ne h), ?_⟩
  obtain ⟨e, he⟩ : ∃ e : Nat → Bool, e = fun k => decide (symL p k = p) := ⟨_, rfl⟩
  have hE : ∀ k, e k = true ↔ symL p k = p := fun k => by rw [he]; simp
  -- the first images are the class
  have hperm : (clsR p).Perm ((firsts e).map fun j => symL p j) := by
    have hn1 : (clsR p).Nodup := by
      rw [List.nodup_iff_pairwise_ne]
      exact (asc_cls h).imp fun hab e => by subst e; rw [befL_irrefl] at hab; cases hab
    have hn2 : ((firsts e).map fun j => symL p j).Nodup := by
      rw [List.nodup_iff_pairwise_ne, List.pairwise_map]
      unfold firsts
      have hlt : ((List.range 8).filter fun j => (List.range j).all fun i => !e (mulS j (invS i))).Pairwise (· < ·) := List.pairwise_lt_range.sublist List.filter_sublist
      refine hlt.imp_of_mem fun {i j} hi hj hij heq => ?_
      have hi8 := List.mem_range.1 (List.mem_filter.1 hi).1
      have hj8 := List.mem_range.1 (List.mem_filter.1 hj).1
      have hall := (List.mem_filter.1 hj).2
      rw [List.all_eq_true] at hall
      have h2 := hall i (List.mem_range.2 hij)
      have h3 := (hE _).2 ((sym_eq h hi8 hj8).1 heq)
      rw [h3] at h2
      cases h2
    refine (List.perm_ext_iff_of_nodup hn1 hn2).2 fun x => ?_
    rw [mem_cls h, List.mem_map]
    constructor
    · rintro ⟨j, hj, rfl⟩
      -- the least number with this image
      have hleast : ∀ n, ∀ j, j ≤ n → j < 8 → ∃ i, i ∈ firsts e ∧ symL p i = symL p j := fun n => by
        induction n with
        | zero =>
          intro j hj _
          obtain rfl : j = 0 := by omega
          exact ⟨0, by simp [firsts, List.mem_filter], rfl⟩
        | succ n ih =>
          intro j hj hj8
          by_cases hf : j ∈ firsts e
          · exact ⟨j, hf, rfl⟩
          · have : ∃ i, i < j ∧ e (mulS j (invS i)) = true := by
              refine Classical.byContradiction fun hc => hf ?_
              refine List.mem_filter.2 ⟨List.mem_range.2 hj8, ?_⟩
              rw [List.all_eq_true]
              intro i hi
              cases hb : e (mulS j (invS i)) with
              | false => rfl
              | true => exact absurd ⟨i, List.mem_range.1 hi, hb⟩ hc
            obtain ⟨i, hij, hb⟩ := this
            obtain ⟨i', h1, h2⟩ := ih i (by omega) (by omega)
            exact ⟨i', h1, h2.trans ((sym_eq h (by omega) hj8).2 ((hE _).1 hb))⟩
      obtain ⟨i, h1, h2⟩ := hleast j j (Nat.le_refl _) hj
      exact ⟨i, h1, h2⟩
    · rintro ⟨i, hi, rfl⟩
      exact ⟨i, List.mem_range.1 (List.mem_filter.1 hi).1, rfl⟩
  rw [hperm.length_eq, List.length_map]
  -- the numbers that leave p as it is are closed
  have hclosed : ∀ i, i < 8 → ∀ j, j < 8 → e i = true → e j = true → e (mulS i j) = true := fun i hi j hj h1 h2 => by
    rw [hE] at h1 h2 ⊢
    rw [← sym_sym h hi hj, h1, h2]
  have htab : ∀ k, k < 8 → tab true (e 1) (e 2) (e 3) (e 4) (e 5) (e 6) (e 7) k = e k := fun k hk => by
    have e0 : e 0 = true := (hE 0).2 (sym_list p).1
    rcases (show k = 0 ∨ k = 1 ∨ k = 2 ∨ k = 3 ∨ k = 4 ∨ k = 5 ∨ k = 6 ∨ k = 7 by omega) with rfl | rfl | rfl | rfl | rfl | rfl | rfl | rfl
    · exact e0.symm
    all_goals rfl
  have hfe : firsts e = firsts (tab true (e 1) (e 2) (e 3) (e 4) (e 5) (e 6) (e 7)) := by
    unfold firsts
    refine List.filter_congr fun j hj => ?_
    have hj8 := List.mem_range.1 hj
    rw [Bool.eq_iff_iff, List.all_eq_true, List.all_eq_true]
    refine forall_congr' fun i => ?_
    constructor
    · intro h1 hi
      rw [htab _ (mulS_lt j hj8 _ (invS_lt i (by have := List.mem_range.1 hi; omega)))]
      exact h1 hi
    · intro h1 hi
      rw [← htab _ (mulS_lt j hj8 _ (invS_lt i (by have := List.mem_range.1 hi; omega)))]
      exact h1 hi
  rw [hfe]
  refine div8 _ _ _ _ _ _ _ fun i hi j hj h1 h2 => ?_
  rw [htab i hi] at h1
  rw [htab j hj] at h2
  rw [htab _ (mulS_lt i hi j hj)]
  exact hclosed i hi j hj h1 h2
end Go.Proofs.Ythndeaodpjelgaa


/-
  PLAIN: the places of a part; occurrences in the reverse and in the inverse are as many.
-/

namespace Go.Proofs.Ythndeaodpjelgaa
set_option maxRecDepth 100000

/-! lists of lists without repetition -/
theorem asc_nodup {l : List (List Int)} (h : Asc l) : l.Nodup := by
  rw [List.nodup_iff_pairwise_ne]
  exact h.imp fun {a b} h e => by rw [e, befL_irrefl] at h; exact absurd h Bool.false_ne_true
theorem subL_erase {a : List Int} {l m : List (List Int)} (hnd : (a :: l).Nodup) (h : ∀ x ∈ a :: l, x ∈ m) : ∀ x ∈ l, x ∈ m.erase a := fun x hx => by
  have hne : x ≠ a := fun e => by subst e; exact (List.nodup_cons.1 hnd).1 hx
  exact (List.mem_erase_of_ne hne).2 (h x (by simp [hx]))
theorem pigeonL_le : ∀ {l m : List (List Int)}, l.Nodup → (∀ x ∈ l, x ∈ m) → l.length ≤ m.length
  | [], _, _, _ => Nat.zero_le _
  | a :: l, m, hnd, h => by
    have ha := h a (by simp)
    have h1 := pigeonL_le (List.nodup_cons.1 hnd).2 (subL_erase hnd h)
    have h2 := List.length_pos_of_mem ha
    rw [List.length_erase_of_mem ha] at h1
    rw [List.length_cons]; omega
/-- A list that is told apart into another one is not longer. -/
theorem inject_le {l m : List (List Int)} (f : List Int → List Int) (hl : l.Nodup) (h : ∀ x ∈ l, f x ∈ m) (hf : ∀ x ∈ l, ∀ y ∈ l, f x = f y → x = y) : l.length ≤ m.length := by
  have hn : (l.map f).Nodup := by
    rw [List.nodup_iff_pairwise_ne, List.pairwise_map]
    refine List.Pairwise.imp_of_mem (fun {a b} ha hb hne e => hne (hf a ha b hb e)) (List.nodup_iff_pairwise_ne.1 hl)
  have := pigeonL_le hn (m := m) fun x hx => by
    obtain ⟨y, hy, rfl⟩ := List.mem_map.1 hx
    exact h y hy
  rwa [List.length_map] at this

/-! the reverse -/
theorem cnt_rev (l : List Int) (v : Int) : cnt l.reverse v = cnt l v := by unfold cnt; rw [List.filter_reverse, List.length_reverse]
theorem patL_rev (l : List Int) : patL l.reverse = (patL l).reverse := by
  unfold patL
  rw [List.map_reverse]
  congr 1
  exact List.map_congr_left fun x _ => by rw [cnt_rev]
def plRev (n : Nat) (pl : List Int) : List Int := (pl.map fun x => (n : Int) + 1 - x).reverse
theorem plRev_ok {n : Nat} {pl : List Int} (h : PlOK n pl) : PlOK n (plRev n pl) := by
  refine ⟨fun x hx => ?_, ?_⟩
  · unfold plRev at hx
    rw [List.mem_reverse, List.mem_map] at hx
    obtain ⟨y, hy, rfl⟩ := hx
    have := h.1 y hy; omega
  · unfold plRev
    rw [List.pairwise_reverse, List.pairwise_map]
    exact h.2.imp fun h => by omega
theorem plRev_back (n : Nat) (pl : List Int) : plRev n (plRev n pl) = pl := by
  unfold plRev
  rw [List.map_reverse, List.reverse_reverse, List.map_map]
  rw [show ((fun x => (n : Int) + 1 - x) ∘ fun x => (n : Int) + 1 - x) = id by funext x; simp only [Function.comp, id]; omega]
  exact List.map_id pl
theorem at0_rev {l : List Int} {i : Nat} (h : i < l.length) : at0 l.reverse i = at0 l (l.length - 1 - i) := at0_of (by rw [List.getElem?_reverse h]; exact at0_some (by omega))
theorem nums_rev {p pl : List Int} (h : PlOK p.length pl) : nums p.reverse (plRev p.length pl) = (nums p pl).reverse := by
  unfold nums plRev
  rw [List.map_reverse, List.map_map]
  congr 1
  refine List.map_congr_left fun x hx => ?_
  have := h.1 x hx
  simp only [Function.comp]
  rw [at0_rev (by omega)]
  congr 1; omega
theorem occ_rev {p q pl : List Int} (h : pl ∈ occR p q) : plRev p.length pl ∈ occR p.reverse q.reverse := by
  rw [mem_occ, isOcc_iff] at h ⊢
  obtain ⟨h1, h2, h3, h4, h5⟩ := h
  refine ⟨isP_rev h1, isP_rev h2, by rw [plRev, List.length_reverse, List.length_map, List.length_reverse, h3], by rw [List.length_reverse]; exact plRev_ok h4, ?_⟩
  rw [nums_rev h4, patL_rev, h5]
theorem occ_rev_le (p q : List Int) : (occR p q).length ≤ (occR p.reverse q.reverse).length :=
  inject_le (plRev p.length) (asc_nodup (occ_asc p q)) (fun _ h => occ_rev h) fun x _ y _ e => by rw [← plRev_back p.length x, e, plRev_back]
theorem occ_rev_len (p q : List Int) : (occR p.reverse q.reverse).length = (occR p q).length := by
  have h1 := occ_rev_le p q
  have h2 := occ_rev_le p.reverse q.reverse
  rw [List.reverse_reverse, List.reverse_reverse] at h2
  omega

/-! the inverse -/
/-- The places in the inverse: the numbers at the places, in ascending order. -/
def plInv (p q pl : List Int) : List Int := (List.range q.length).map fun j => at0 (nums p pl) ((at0 (invL q) j).toNat - 1)
theorem plInv_length (p q pl : List Int) : (plInv p q pl).length = q.length := by simp [plInv]
theorem plInv_at {p q pl : List Int} {j : Nat} (h : j < q.length) : at0 (plInv p q pl) j = at0 (nums p pl) ((at0 (invL q) j).toNat - 1) := at0_of (by unfold plInv; rw [List.getElem?_map, List.getElem?_range h]; rfl)
/-- A place of the inverse: where the number stands. -/
theorem inv_at {q : List Int} (hq : isP q = true) {j : Nat} (hj : j < q.length) : ∃ i, i < q.length ∧ at0 q i = (j : Int) + 1 ∧ at0 (invL q) j = (i : Int) + 1 := by
  obtain ⟨i, hi, h1, h2⟩ := invL_get hq hj
  exact ⟨i, hi, at0_of h1, at0_of h2⟩
theorem inv_val {p : List Int} (hp : isP p = true) {i : Nat} (hi : i < p.length) : at0 (invL p) ((at0 p i).toNat - 1) = (i : Int) + 1 := at0_of (invL_at hp hi (at0_some hi))
theorem rng_at {p : List Int} (hp : isP p = true) {i : Nat} (hi : i < p.length) : 1 ≤ at0 p i ∧ at0 p i ≤ (p.length : Int) := isP_range hp (at0_some hi)
theorem plOK_of {n : Nat} {l : List Int} (h1 : ∀ i, i < l.length → 1 ≤ at0 l i ∧ at0 l i ≤ (n : Int)) (h2 : ∀ i j, i < j → j < l.length → at0 l i < at0 l j) : PlOK n l := by
  refine ⟨fun x hx => ?_, List.pairwise_iff_getElem.2 fun i j hi hj hij => ?_⟩
  · obtain ⟨i, hi, rfl⟩ := List.getElem_of_mem hx
    have := h1 i hi
    rwa [at0_of (List.getElem?_eq_getElem hi)] at this
  · have := h2 i j hij hj
    rwa [at0_of (List.getElem?_eq_getElem hi), at0_of (List.getElem?_eq_getElem hj)] at this
theorem occ_inv {p q pl : List Int} (h : pl ∈ occR p q) : plInv p q pl ∈ occR (invL p) (invL q) ∧ ∀ i, i < pl.length → at0 (nums (invL p) (plInv p q pl)) ((at0 q i).toNat - 1) = at0 pl i := by
  rw [mem_occ, isOcc_iff] at h
  obtain ⟨h1, h2, h3, h4, h5⟩ := h
  have ha := (pat_eq_iff h2).1 h5
  have hnl := nums_length p pl
  have hv : ∀ i, i < pl.length → 1 ≤ at0 (nums p pl) i ∧ at0 (nums p pl) i ≤ (p.length : Int) := fun i hi => by
    have := h4.rng hi
    rw [nums_at0 hi]
    exact rng_at h1 (by omega)
  have hok : PlOK (invL p).length (plInv p q pl) := by
    rw [invL_length]
    refine plOK_of (fun i hi => ?_) fun i j hij hj => ?_
    · rw [plInv_length] at hi
      rw [plInv_at hi]
      obtain ⟨k, hk, _, e⟩ := inv_at h2 hi
      rw [e]
      have := hv k (by omega)
      rwa [show ((k : Int) + 1).toNat - 1 = k by omega]
    · rw [plInv_length] at hj
      rw [plInv_at (show i < q.length by omega), plInv_at hj]
      obtain ⟨k, hk, e1, e⟩ := inv_at h2 (show i < q.length by omega)
      obtain ⟨k', hk', e1', e'⟩ := inv_at h2 hj
      rw [e, e', show ((k : Int) + 1).toNat - 1 = k by omega, show ((k' : Int) + 1).toNat - 1 = k' by omega]
      rw [ha.2 k k' (by omega) (by omega), e1, e1']
      omega
  have hback : ∀ j, j < q.length → at0 (nums (invL p) (plInv p q pl)) j = at0 pl ((at0 (invL q) j).toNat - 1) := fun j hj => by
    rw [nums_at0 (by rw [plInv_length]; exact hj), plInv_at hj]
    obtain ⟨k, hk, _, e⟩ := inv_at h2 hj
    rw [e, show ((k : Int) + 1).toNat - 1 = k by omega, nums_at0 (by omega)]
    have := h4.rng (i := k) (by omega)
    rw [inv_val h1 (by omega)]
    omega
  refine ⟨?_, fun i hi => ?_⟩
  · rw [mem_occ, isOcc_iff]
    refine ⟨invL_isP h1, invL_isP h2, by rw [plInv_length, invL_length], hok, ?_⟩
    rw [pat_eq_iff (invL_isP h2)]
    refine ⟨by rw [nums_length, plInv_length, invL_length], fun i j hi hj => ?_⟩
    rw [nums_length, plInv_length] at hi hj
    rw [hback i hi, hback j hj]
    obtain ⟨k, hk, _, e⟩ := inv_at h2 hi
    obtain ⟨k', hk', _, e'⟩ := inv_at h2 hj
    rw [e, e', show ((k : Int) + 1).toNat - 1 = k by omega, show ((k' : Int) + 1).toNat - 1 = k' by omega]
    rcases Nat.lt_trichotomy k k' with hh | hh | hh
    · have := h4.mono hh (by omega); omega
    · subst hh; omega
    · have := h4.mono hh (by omega); omega
  · have hr := rng_at h2 (show i < q.length by omega)
    rw [hback _ (by omega), inv_val h2 (by omega), show ((i : Int) + 1).toNat - 1 = i by omega]
theorem occ_inv_le (p q : List Int) : (occR p q).length ≤ (occR (invL p) (invL q)).length :=
  inject_le (plInv p q) (asc_nodup (occ_asc p q)) (fun _ h => (occ_inv h).1) fun x hx y hy e => by
    have h1 := (isOcc_iff.1 (mem_occ.1 hx)).2.2.1
    have h2 := (isOcc_iff.1 (mem_occ.1 hy)).2.2.1
    refine ext_at0 (by omega) fun i hi => ?_
    rw [← (occ_inv hx).2 i hi, e, (occ_inv hy).2 i (by omega)]
theorem occ_inv_len {p q : List Int} (hp : isP p = true) (hq : isP q = true) : (occR (invL p) (invL q)).length = (occR p q).length := by
  have h1 := occ_inv_le p q
  have h2 := occ_inv_le (invL p) (invL q)
  rw [inv_inv hp, inv_inv hq] at h2
  omega

/-! a part of a permutation -/
theorem nums_up (a : Int) (l pl : List Int) (h : ∀ x ∈ pl, 1 ≤ x) : nums (a :: l) (pl.map fun x => x + 1) = nums l pl := by
  unfold nums
  rw [List.map_map]
  refine List.map_congr_left fun x hx => ?_
  have := h x hx
  simp only [Function.comp]
  rw [show (x + 1).toNat - 1 = x.toNat - 1 + 1 by omega, at0_succ]
theorem plOK_up {n : Nat} {pl : List Int} (h : PlOK n pl) : PlOK (n + 1) (pl.map fun x => x + 1) := by
  refine ⟨fun x hx => ?_, ?_⟩
  · obtain ⟨y, hy, rfl⟩ := List.mem_map.1 hx
    have := h.1 y hy; omega
  · rw [List.pairwise_map]
    exact h.2.imp fun h => by omega
theorem places_of {s l : List Int} (h : s.Sublist l) : ∃ pl, PlOK l.length pl ∧ nums l pl = s := by
  induction h with
  | slnil => exact ⟨[], PlOK.nil _, rfl⟩
  | cons a _ ih =>
    obtain ⟨pl, h1, h2⟩ := ih
    exact ⟨_, by rw [List.length_cons]; exact plOK_up h1, by rw [nums_up a _ pl fun x hx => (h1.1 x hx).1, h2]⟩
  | cons_cons a _ ih =>
    obtain ⟨pl, h1, h2⟩ := ih
    refine ⟨1 :: pl.map fun x => x + 1, ?_, ?_⟩
    · rw [List.length_cons]
      have h3 := plOK_up h1
      refine ⟨fun x hx => ?_, List.pairwise_cons.2 ⟨fun x hx => ?_, h3.2⟩⟩
      · rcases List.mem_cons.1 hx with rfl | hx
        · omega
        · exact h3.1 x hx
      · obtain ⟨y, hy, rfl⟩ := List.mem_map.1 hx
        have := h1.1 y hy; omega
    · have h3 := (nums_up a _ pl fun x hx => (h1.1 x hx).1).trans h2
      unfold nums at h3 ⊢
      rw [List.map_cons, h3]; rfl
theorem occ_sub {p s : List Int} (hp : isP p = true) (h : s.Sublist p) (hs : isP (patL s) = true) : 0 < (occR p (patL s)).length := by
  obtain ⟨pl, h1, h2⟩ := places_of h
  refine List.length_pos_of_mem (a := pl) ?_
  rw [mem_occ, isOcc_iff]
  exact ⟨hp, hs, by rw [patL_length, ← h2, nums_length], h1, by rw [h2]⟩
end Go.Proofs.Ythndeaodpjelgaa


/-
  WORDS FOR MEMORY: a slice that reads as a list of values (nil let in), and what keeps it; a row of the call's own. Plain lemmas: nothing here speaks of the program.
-/

namespace Go.Proofs.Ythndeaodpjelgaa
set_option maxRecDepth 100000
open Go.RowKit

theorem block_of_add (a : Addr) (n : Nat) : (a.add n).block = a.block := by unfold Addr.add; split <;> rfl
theorem add_of_add (a : Addr) (i j : Nat) : (a.add i).add j = a.add (i + j) := by
  unfold Addr.add
  by_cases hi : i = 0 <;> by_cases hj : j = 0 <;> simp [hi, hj, Nat.add_assoc]

/-- The slice value '.slice A n c' holds the one-cell values xs, below block B. -/
def Reads (w : World) (B : Nat) (A : Option Addr) (n : Nat) (xs : List Value) : Prop :=
  xs.length = n ∧ (0 < n → ∃ ad, A = some ad ∧ ad.block < B ∧ ∀ j u, xs[j]? = some u → w.cell? (ad.add j) = some u)

section
variable {w w' : World} {B B' n : Nat} {A : Option Addr} {xs : List Value}
theorem Reads.none_ : Reads w B A 0 [] := ⟨rfl, fun h => absurd h (by omega)⟩
theorem Reads.at_ {k : Nat} (h : Reads w B A n xs) (hk : k < n) : ∃ ad u, A = some ad ∧ ad.block < B ∧ xs[k]? = some u ∧ w.cell? (ad.add k) = some u := by
  obtain ⟨ad, e, hb, hc⟩ := h.2 (by omega)
  have hl : k < xs.length := by have := h.1; omega
  exact ⟨ad, xs[k], e, hb, List.getElem?_eq_getElem hl, hc k _ (List.getElem?_eq_getElem hl)⟩
theorem Reads.keep (h : Reads w B A n xs) (hk : ∀ p : Addr, p.block < B → w'.cell? p = w.cell? p) : Reads w' B A n xs :=
  ⟨h.1, fun hn => by
    obtain ⟨ad, e, hb, hc⟩ := h.2 hn
    exact ⟨ad, e, hb, fun j u hu => (hk _ (by rw [block_of_add]; exact hb)).trans (hc j u hu)⟩⟩
theorem Reads.more (h : Reads w B A n xs) (hB : B ≤ B') : Reads w B' A n xs :=
  ⟨h.1, fun hn => by
    obtain ⟨ad, e, hb, hc⟩ := h.2 hn
    exact ⟨ad, e, by omega, hc⟩⟩
theorem Reads.below (h : Reads w B A n xs) (hb : Below B w w') : Reads w' B A n xs := h.keep fun _ hp => hb.cell hp
theorem Reads.drew (h : Reads w B A n xs) : Reads w.drew B A n xs := h
theorem Reads.drewN (h : Reads w B A n xs) (k : Nat) : Reads (w.drewN k) B A n xs := h
theorem Reads.alloc (h : Reads w B A n xs) (hB : B ≤ w.heap.size) (o : Obj) : Reads (w.alloc o) B A n xs := h.keep fun p hp => World.cell?_alloc_lt w o p (by omega)
theorem Reads.setCell (h : Reads w B A n xs) {p : Addr} (hB : B ≤ p.block) (u : Value) : Reads (w.setCell p u) B A n xs :=
  h.keep fun q hq => World.cell?_setCell_other w p q u (fun e => by subst e; omega)
theorem Reads.grown (h : Reads w B A n xs) {row : Option Nat} (hg : w.grownBy w' row) (hB : B ≤ w.heap.size) (hr : ∀ g, row = some g → B ≤ g) : Reads w' B A n xs :=
  h.keep fun p hp => World.cell?_of_block (hg.block p.block (by omega) (fun e => by have := hr _ e.symm; omega))
theorem Reads.of_own {base : Nat} {e : TypeId} {v : Value} (h : w.ownsRow base e 1 v n xs) : ∃ A c, v = .slice A n c ∧ Reads w w.heap.size A n xs := by
  rcases h.2 with ⟨rfl, rfl⟩ | ⟨g, cap, cur, rfl, hb, hg, hnc, hcm, hsz, htake⟩
  · exact ⟨none, 0, rfl, by simpa using h.1, fun hn => by omega⟩
  · refine ⟨_, _, rfl, by simpa using h.1, fun _ => ⟨_, rfl, (Array.getElem?_eq_some_iff.1 hg).1, fun j u hu => h.cells (g := g) rfl j u hu⟩⟩
theorem Reads.of_own_at {base : Nat} {e : TypeId} {c : Nat} (h : w.ownsRow base e 1 (.slice A n c) n xs) : Reads w w.heap.size A n xs := by
  obtain ⟨A', c', hv, hr⟩ := Reads.of_own h
  injection hv with h1 h2 h3
  subst h1
  exact hr
end

/-- Two calls, one behind the other: what lay before the first stands behind the second. -/
theorem below_after {w0 w1 w2 : World} (h1 : Below w0.heap.size w0 w1) (h2 : Below w1.heap.size w1 w2) : Below w0.heap.size w0 w2 := h1.trans (h2.mono h1.size)

/-- 'out = append(out, x)', x one cell: out a row of the call's own. -/
theorem wpList_append_one {P : Program} {ops : Array Oper} {rest : List Oper} {o : Oper} {a : Act} {W : World} {Q : Exit → Act → World → Prop} (hgd : o.guard = none) (sl x : Operand) (t : TypeId)
    (ho : o.op = .call { callee := .builtin .append, args := #[sl, x], argTypes := #[t, t] })
    (base : Nat) (e : TypeId) (i : TypeInfo) (z : Value) (bytes : Nat) (ht : P.underlying t = some (.slice e)) (hi : P.info? e = some i) (hz : i.zero = some z) (hsize : i.size = 1) (hby : i.bytes = bytes) (hzs : z.cells.size = 1)
    (w0 wr : World) (v : Value) (n : Nat) (xs : List Value) (hs : a.eval sl = v) (hown : wr.ownsRow base e 1 v n xs) (y : Value) (hx : a.eval x = .slice (some ⟨wr.heap.size, 0, none⟩) 1 1) (hW : W = wr.alloc (.cells #[y] e)) (h1 : y.oneCell' = true)
    (hbytes : (n + 1) * bytes ≤ 140737488355328) (hn : n + 1 ≤ maxLen) (hb : Below base w0 wr) (hbase : base ≤ wr.heap.size)
    (h : ∀ v' w', w'.ownsRow base e 1 v' (n + 1) (xs ++ [y]) → Below base w0 w' → wr.grownBy w' v.ownBlock → wpList P ops Q rest (a.put o.dst v') w') : wpList P ops Q (o :: rest) a W := by
  subst hW
  refine wpList_append_own _ hgd sl x t ho base e i z 1 bytes ht hi hz hsize hby hzs (by decide) v n xs hs (hown.alloc _) ⟨wr.heap.size, 0, none⟩ 1 1 [y] hx rfl ?_ ?_ hn hbytes (by simp; omega) ?_
  · intro j u hj
    match j, hj with
    | 0, hj => simp at hj; subst hj; simp [Addr.add]
  · intro u hu
    obtain rfl := List.mem_singleton.1 hu
    exact h1
  · intro v' w' h2 h3 _
    refine h v' w' h2 ?_ ?_
    · exact (hb.alloc hbase _).grown h3 (by simp; omega) (fun k hk => (hown.lt k hk).1)
    · exact ⟨h3.os, h3.tape, h3.output, Nat.le_trans (by simp) h3.size, fun k hk hne => (h3.block k (by simp; omega) hne).trans (Below.heap_alloc wr _ k hk)⟩

theorem grown_of_below {w w' : World} (h : Below w.heap.size w w') (row : Option Nat) : w.grownBy w' row := ⟨h.os, h.tape, h.output, h.size, fun i hi _ => h.block i hi⟩
theorem own_below {w w' : World} {base n size : Nat} {e : TypeId} {v : Value} {xs : List Value} (h : w.ownsRow base e size v n xs) (hb : Below w.heap.size w w') : w'.ownsRow base e size v n xs :=
  h.kept (grown_of_below hb none) (by cases hv : v.ownBlock <;> simp)
theorem grown_then {a b c : World} {row : Option Nat} (h : a.grownBy b row) (k : b.grownBy c row) : a.grownBy c row :=
  ⟨k.os.trans h.os, k.tape.trans h.tape, k.output.trans h.output, Nat.le_trans h.size k.size, fun i hi hne => (k.block i (Nat.lt_of_lt_of_le hi h.size) hne).trans (h.block i hi hne)⟩
theorem below_of_grown {B : Nat} {a b : World} {row : Option Nat} (h : a.grownBy b row) (hB : B ≤ a.heap.size) (hr : ∀ k, row = some k → B ≤ k) : Below B a b := (Below.refl _ _).grown h hB hr
/-- A slice that reads below B, behind a change of one row at or above B. -/
theorem Reads.row {w w' : World} {B n : Nat} {A : Option Addr} {xs : List Value} (h : Reads w B A n xs) {g : Nat} (hg : w.grownBy w' (some g)) (hB : B ≤ w.heap.size) (hr : B ≤ g) : Reads w' B A n xs :=
  h.grown hg hB (fun k hk => by injection hk with hk; omega)

theorem keep_cell {wr w : World} {p : Addr} {v : Value} (h : wr.cell? p = some v) (hp : p.block < wr.heap.size) (hb : Below wr.heap.size wr w) : w.cell? p = some v ∧ Below wr.heap.size wr w := ⟨(hb.cell hp).trans h, hb⟩

/-- Bytes, integers as cells. -/
def u8s (bs : List UInt8) : List Value := bs.map fun b => .int .u8 b.toNat
theorem u8_at {bs : List UInt8} {k : Nat} {u : Value} (h : (u8s bs)[k]? = some u) : ∃ b : UInt8, bs[k]? = some b ∧ u = .int .u8 b.toNat := by
  unfold u8s at h
  rw [List.getElem?_map] at h
  cases hs : bs[k]? with
  | none => simp [hs] at h
  | some s => simp [hs] at h; exact ⟨s, rfl, h.symm⟩
def i64s (zs : List Int) : List Value := zs.map (Value.int .i64)
theorem i64_at {zs : List Int} {k : Nat} {u : Value} (h : (i64s zs)[k]? = some u) : ∃ z, zs[k]? = some z ∧ u = .int .i64 z := by
  unfold i64s at h
  rw [List.getElem?_map] at h
  cases hs : zs[k]? with
  | none => simp [hs] at h
  | some s => simp [hs] at h; exact ⟨s, rfl, h.symm⟩

/-- Nothing but draws. -/
def Drew (w w' : World) : Prop := ∃ n : Nat, w' = w.drewN n
theorem Drew.refl (w : World) : Drew w w := ⟨0, rfl⟩
theorem Drew.of_eq {w w' : World} (h : w' = w) : Drew w w' := by subst h; exact Drew.refl _
theorem Drew.more {w w' : World} (h : Drew w w') (k : Nat) : Drew w (w'.drewN k) := by
  obtain ⟨n, rfl⟩ := h
  exact ⟨n + k, by rw [World.drewN_drewN]⟩
theorem Drew.trans {a b c : World} (h : Drew a b) (k : Drew b c) : Drew a c := by
  obtain ⟨n, rfl⟩ := k
  exact h.more n
theorem Drew.cell {w w' : World} (h : Drew w w') (p : Addr) : w'.cell? p = w.cell? p := by obtain ⟨n, rfl⟩ := h; rfl
theorem Drew.size {w w' : World} (h : Drew w w') : w'.heap.size = w.heap.size := by obtain ⟨n, rfl⟩ := h; rfl
theorem Drew.below {w w' : World} (h : Drew w w') (B : Nat) : Below B w w' := by
  obtain ⟨n, rfl⟩ := h
  exact ⟨rfl, rfl, rfl, Nat.le_refl _, fun _ _ => rfl⟩
theorem Reads.ofDrew {w w' : World} {B n : Nat} {A : Option Addr} {xs : List Value} (h : Reads w B A n xs) (hd : Drew w w') : Reads w' B A n xs := h.keep fun p _ => hd.cell p

theorem size_list' (s : ByteArray) : s.data.toList.length = s.size := by rw [Array.length_toList]; rfl
theorem ret_int {k : IntKind} {a b : Int} (h : a = b) : Ending.returned (.int k a) = .returned (.int k b) := by rw [h]
theorem ret_bool {a b : Bool} (h : a = b) : Ending.returned (.bool a) = .returned (.bool b) := by rw [h]
theorem ret_str {a b : ByteArray} (h : a = b) : Ending.returned (.string a) = .returned (.string b) := by rw [h]
theorem hide {p : Prop} (h : p) : Hid p := h
theorem unhide {p : Prop} (h : Hid p) : p := h
end Go.Proofs.Ythndeaodpjelgaa


/-
  CONTRACTS OF THE LAWS' HELPERS OVER []int: toIntS, eqIntS, markIntS, heldIntS; and the words for them.
-/

namespace Go.Proofs.Ythndeaodpjelgaa
set_option maxRecDepth 100000
open Go.RowKit

/-- Numbers of 64 bits. -/
def Small (zs : List Int) : Prop := ∀ z ∈ zs, -9223372036854775808 ≤ z ∧ z ≤ 9223372036854775807
theorem i64_get {zs : List Int} {k : Nat} {z : Int} (h : zs[k]? = some z) : (i64s zs)[k]? = some (.int .i64 z) := by
  unfold i64s; rw [List.getElem?_map, h]; rfl
theorem i64_length (zs : List Int) : (i64s zs).length = zs.length := by unfold i64s; rw [List.length_map]
theorem i64_inj {xs ys : List Int} (h : i64s xs = i64s ys) : xs = ys := by
  refine List.ext_getElem? fun i => ?_
  have e := congrArg (fun l => l[i]?) h
  simp only [i64s, List.getElem?_map] at e
  cases hx : xs[i]? <;> cases hy : ys[i]? <;> simp_all
theorem take_set_i {α : Type} {xs ys : List α} {k : Nat} {u : α} (h : xs.take k = ys.take k) (hu : ys[k]? = some u) (hl : k < xs.length) : (xs.set k u).take (k + 1) = ys.take (k + 1) := by
  rw [List.take_add_one, List.take_add_one, List.take_set_of_le (Nat.le_refl _), h]
  simp [hu, hl]
theorem below_set_i {B : Nat} {w w' : World} {e : TypeId} {size : Nat} {g cap n : Nat} {xs : List Value} (hb : Below B w w') (hown : w'.ownsRow B e size (.slice (some ⟨g, 0, none⟩) n cap) n xs) (j : Nat) (u : Value) : Below B w (w'.setCell ⟨g, j, none⟩ u) :=
  hb.setCell (hown.lt g rfl).1 _
theorem intInfo : (Try.prog.info? 3).map (fun i => (i.zero, i.size, i.bytes)) = some (some (.int .i64 0), 1, 8) := by kernel_rfl

/-- A row from block B on whose first n cells are these: it may be read and written, whatever its type and its room. -/
def Row (w : World) (B : Nat) (v : Value) (n : Nat) (xs : List Value) : Prop :=
  xs.length = n ∧ ((v = .slice none 0 0 ∧ n = 0) ∨ ∃ g cap cur e, v = .slice (some ⟨g, 0, none⟩) n cap ∧ B ≤ g ∧ w.heap[g]? = some (.cells cur e (0, 0)) ∧ (n ≤ cap ∧ n ≤ cur.size) ∧ cur.toList.take n = xs ∧ e ≠ 22)
section
variable {w w' : World} {B n : Nat} {v : Value} {xs : List Value}
theorem Row.of_own {e : TypeId} (h : w.ownsRow B e 1 v n xs) (he : e ≠ 22) : Row w B v n xs := by
  refine ⟨by simpa using h.1, ?_⟩
  rcases h.2 with h0 | ⟨g, cap, cur, hv, hb, hg, hnc, _, hs, ht⟩
  · exact .inl h0
  · exact .inr ⟨g, cap, cur, e, hv, hb, hg, ⟨hnc, by omega⟩, by simpa using ht, he⟩
theorem Row.lt (h : Row w B v n xs) : ∀ k, v.ownBlock = some k → B ≤ k ∧ k < w.heap.size := by
  intro k hk
  rcases h.2 with ⟨rfl, _⟩ | ⟨g, cap, cur, e, rfl, hb, hg, _⟩
  · simp [Value.ownBlock] at hk
  · simp [Value.ownBlock] at hk
    subst hk
    exact ⟨hb, (Array.getElem?_eq_some_iff.1 hg).1⟩
theorem Row.kept {row : Option Nat} (h : Row w B v n xs) (hg : w.grownBy w' row) (hne : v.ownBlock = none ∨ v.ownBlock ≠ row) : Row w' B v n xs := by
  refine ⟨h.1, ?_⟩
  rcases h.2 with hn | ⟨g, cap, cur, e, rfl, hb, hgg, rest⟩
  · exact .inl hn
  · refine .inr ⟨g, cap, cur, e, rfl, hb, ?_, rest⟩
    rw [hg.block g (Array.getElem?_eq_some_iff.1 hgg).1 (by simpa [Value.ownBlock] using hne)]
    exact hgg
theorem Row.cells {g : Nat} (h : Row w B v n xs) (hv : v.ownBlock = some g) (j : Nat) (hj : j < n) : w.cell? ⟨g, j, none⟩ = xs[j]? := by
  rcases h.2 with ⟨rfl, _⟩ | ⟨g', cap, cur, e, rfl, hb, hg, _, ht, _⟩
  · simp [Value.ownBlock] at hv
  · simp [Value.ownBlock] at hv
    subst hv
    rw [cell_of_row w g' j cur e (0, 0) hg, ← ht, List.getElem?_take, if_pos hj]
    simp
theorem Row.frozen {g : Nat} (h : Row w B v n xs) (hv : v.ownBlock = some g) (j : Nat) : w.frozen? ⟨g, j, none⟩ = false := by
  rcases h.2 with ⟨rfl, _⟩ | ⟨g', cap, cur, e, rfl, hb, hg, _⟩
  · simp [Value.ownBlock] at hv
  · simp [Value.ownBlock] at hv
    subst hv
    exact frozen_of_row w g' j cur e hg
theorem Row.stored {g : Nat} (h : Row w B v n xs) (hv : v.ownBlock = some g) (j : Nat) (u : Value) : Row (w.setCell ⟨g, j, none⟩ u) B v n (xs.set j u) ∧ w.grownBy (w.setCell ⟨g, j, none⟩ u) (some g) := by
  rcases h.2 with ⟨rfl, _⟩ | ⟨g', cap, cur, e, rfl, hb, hg, hs, ht, he⟩
  · simp [Value.ownBlock] at hv
  · simp [Value.ownBlock] at hv
    subst hv
    refine ⟨⟨by simpa using h.1, .inr ⟨g', cap, cur.setIfInBounds j u, e, rfl, hb, heap_setCell_same w g' j cur e u hg, ⟨hs.1, by simpa using hs.2⟩, ?_, he⟩⟩, ⟨rfl, rfl, rfl, by simp, fun k _ hk => Below.heap_setCell w _ u k (fun he => hk (by rw [he]))⟩⟩
    rw [Array.toList_setIfInBounds, List.take_set, ht]
theorem Row.reads {c : Nat} {A : Option Addr} (h : Row w B (.slice A n c) n xs) : Reads w w.heap.size A n xs := by
  rcases h.2 with ⟨hv, h0⟩ | ⟨g, cap, cur, e, hv, hb, hg, hs, ht, _⟩
  · exact ⟨h.1, fun hn => by omega⟩
  · injection hv with hA _ _
    subst hA
    refine ⟨h.1, fun _ => ⟨_, rfl, (Array.getElem?_eq_some_iff.1 hg).1, fun j u hu => ?_⟩⟩
    have hj : j < n := by have := (List.getElem?_eq_some_iff.1 hu).1; have := h.1; omega
    rw [show (⟨g, 0, none⟩ : Addr).add j = ⟨g, j, none⟩ by unfold Addr.add; split <;> simp_all, h.cells (g := g) rfl j hj]
    exact hu
end
theorem Row.cap {w : World} {B n c : Nat} {A : Option Addr} {xs : List Value} (h : Row w B (.slice A n c) n xs) : n ≤ c := by
  rcases h.2 with ⟨hv, h0⟩ | ⟨g, cap, cur, e, hv, _, _, hs, _⟩
  · omega
  · injection hv with _ _ hc
    rw [hc]; exact hs.1
/-- A row of the call's own that holds these numbers. -/
def Ints (w : World) (B : Nat) (v : Value) (zs : List Int) : Prop := Row w B v zs.length (i64s zs)
theorem Ints.of_own {w : World} {B n : Nat} {v : Value} {zs : List Int} (h : w.ownsRow B 3 1 v n (i64s zs)) : Ints w B v zs := by
  have hn : zs.length = n := by have := h.1; rw [i64_length] at this; omega
  unfold Ints
  rw [hn]
  exact Row.of_own h (by decide)
theorem Ints.slice {w : World} {B : Nat} {v : Value} {zs : List Int} (h : Ints w B v zs) : ∃ A c, v = .slice A zs.length c := by
  rcases h.2 with ⟨rfl, hz⟩ | ⟨g, cap, cur, e, rfl, _⟩
  · exact ⟨none, 0, by rw [hz]⟩
  · exact ⟨_, _, rfl⟩
theorem Ints.len {w : World} {B n c : Nat} {A : Option Addr} {zs : List Int} (h : Ints w B (.slice A n c) zs) : zs.length = n := by
  obtain ⟨A', c', hv⟩ := h.slice
  injection hv with _ h2; exact h2.symm
theorem Ints.cap {w : World} {B n c : Nat} {A : Option Addr} {zs : List Int} (h : Ints w B (.slice A n c) zs) : n ≤ c := by
  obtain rfl := h.len
  exact Row.cap h
theorem Ints.reads {w : World} {B n c : Nat} {A : Option Addr} {zs : List Int} (h : Ints w B (.slice A n c) zs) : Reads w w.heap.size A n (i64s zs) := by
  have hn : n = zs.length := by
    rcases h.2 with ⟨hv, hz⟩ | ⟨g, cap, cur, e, hv, _⟩
    · injection hv with _ h2; omega
    · injection hv
  subst hn
  exact Row.reads h
theorem Ints.below {w w' : World} {B : Nat} {v : Value} {zs : List Int} (h : Ints w B v zs) (hb : Below w.heap.size w w') : Ints w' B v zs := Row.kept h (grown_of_below hb none) (by cases hv : v.ownBlock <;> simp)
theorem Ints.kept {w w' : World} {B : Nat} {v : Value} {zs : List Int} (h : Ints w B v zs) {row : Option Nat} (hg : w.grownBy w' row) (hne : v.ownBlock = none ∨ v.ownBlock ≠ row) : Ints w' B v zs := Row.kept h hg hne
theorem Ints.low {w : World} {B B' : Nat} {v : Value} {zs : List Int} (h : Ints w B v zs) (hB : B' ≤ B) : Ints w B' v zs :=
  ⟨h.1, by
    rcases h.2 with h0 | ⟨g, cap, cur, e, hv, hb, hr⟩
    · exact .inl h0
    · exact .inr ⟨g, cap, cur, e, hv, Nat.le_trans hB hb, hr⟩⟩
theorem own0 (w : World) (B : Nat) (hB : B ≤ w.heap.size) : (w.alloc (.cells #[] 3)).ownsRow B 3 1 (.slice (some ⟨w.heap.size, 0, none⟩) 0 0) 0 [] :=
  World.ownsRow_made (base := B) (e := 3) (size := 1) w #[] 0 hB (by simp [maxLen]) rfl
theorem Ints.made0 (w : World) (B : Nat) (hB : B ≤ w.heap.size) : Ints (w.alloc (.cells #[] 3)) B (.slice (some ⟨w.heap.size, 0, none⟩) 0 0) [] := Ints.of_own (zs := []) (own0 w B hB)
theorem Ints.nil (w : World) (B : Nat) : Ints w B (.slice none 0 0) [] := ⟨rfl, .inl ⟨rfl, rfl⟩⟩
/-- Where the block lies. -/
def Since (B : Nat) (v : Value) : Prop := ∀ k, v.ownBlock = some k → B ≤ k
def Until (B : Nat) (v : Value) : Prop := ∀ k, v.ownBlock = some k → k < B
theorem Ints.since {w : World} {B : Nat} {v : Value} {zs : List Int} (h : Ints w B v zs) : Since B v := fun k hk => (Row.lt h k hk).1
theorem Ints.until_ {w : World} {B : Nat} {v : Value} {zs : List Int} (h : Ints w B v zs) : Until w.heap.size v := fun k hk => (Row.lt h k hk).2
theorem Since.mono {B B' : Nat} {v : Value} (h : Since B v) (hb : B' ≤ B) : Since B' v := fun k hk => Nat.le_trans hb (h k hk)
theorem Until.mono {B B' : Nat} {v : Value} (h : Until B v) (hb : B ≤ B') : Until B' v := fun k hk => Nat.lt_of_lt_of_le (h k hk) hb
theorem apart {B B' : Nat} {u v : Value} (hu : Until B u) (hv : Since B' v) (hb : B ≤ B') : u.ownBlock = none ∨ u.ownBlock ≠ v.ownBlock := by
  cases h : u.ownBlock with
  | none => exact .inl rfl
  | some k => exact .inr fun e => by have := hu k h; have := hv k e.symm; omega
theorem apart' {B B' : Nat} {u v : Value} (hu : Since B' u) (hv : Until B v) (hb : B ≤ B') : u.ownBlock = none ∨ u.ownBlock ≠ v.ownBlock := by
  cases h : u.ownBlock with
  | none => exact .inl rfl
  | some k => exact .inr fun e => by have := hv k e.symm; have := hu k h; omega
theorem below_row {B : Nat} {w0 w w' : World} {v : Value} (hb : Below B w0 w) (hg : w.grownBy w' v.ownBlock) (hB : B ≤ w.heap.size) (hs : Since B v) : Below B w0 w' := hb.grown hg hB hs

theorem made_zeros (n : Nat) : (madeCells (Value.int .i64 0).cells (n * 1)).toList = i64s (List.replicate n 0) := by
  rw [Nat.mul_one]
  unfold i64s
  rw [List.map_replicate]
  exact toList_madeCells_one _ _

def GivesI (w : World) (zs : List Int) (e : Ending) (w' : World) : Prop := ∃ A c, e = .returned (.slice A zs.length c) ∧ Ints w' w.heap.size (.slice A zs.length c) zs ∧ Below w.heap.size w w'
def GivesIB (w : World) (zs : List Int) (b : Bool) (e : Ending) (w' : World) : Prop := ∃ A c, e = .returned (.tuple #[.slice A zs.length c, .bool b]) ∧ Ints w' w.heap.size (.slice A zs.length c) zs ∧ Below w.heap.size w w'
theorem GivesI.mk {w w' : World} {v : Value} {zs : List Int} (h : Ints w' w.heap.size v zs) (hb : Below w.heap.size w w') : GivesI w zs (.returned v) w' := by
  obtain ⟨A, c, rfl⟩ := h.slice
  exact ⟨A, c, rfl, h, hb⟩
theorem GivesIB.mk {w w' : World} {v : Value} {zs : List Int} (b : Bool) (h : Ints w' w.heap.size v zs) (hb : Below w.heap.size w w') : GivesIB w zs b (.returned (.tuple #[v, .bool b])) w' := by
  obtain ⟨A, c, rfl⟩ := h.slice
  exact ⟨A, c, rfl, h, hb⟩

def GivesB (w : World) (b : Bool) (e : Ending) (w' : World) : Prop := e = .returned (.bool b) ∧ Below w.heap.size w w'
def GivesS (w : World) (s : ByteArray) (e : Ending) (w' : World) : Prop := e = .returned (.string s) ∧ Below w.heap.size w w'
def GivesN (w : World) (z : Int) (e : Ending) (w' : World) : Prop := e = .returned (.int .i64 z) ∧ Below w.heap.size w w'
/-- A list of integers as an argument: it reads below B, it is not long, its numbers have 64 bits. -/
structure Arg (w : World) (B : Nat) (A : Option Addr) (n c : Nat) (zs : List Int) : Prop where
  reads : Reads w B A n (i64s zs)
  under : B ≤ w.heap.size
  le : n ≤ 1048576
  cap : n ≤ c
  small : Small zs
  nil : A = none → c = 0
theorem Arg.len {w : World} {B n c : Nat} {A : Option Addr} {zs : List Int} (h : Arg w B A n c zs) : zs.length = n := by have := h.reads.1; rwa [i64_length] at this
theorem Arg.below {w w' : World} {B n c : Nat} {A : Option Addr} {zs : List Int} (h : Arg w B A n c zs) (hb : Below w.heap.size w w') : Arg w' B A n c zs :=
  ⟨h.reads.below (hb.mono h.under), Nat.le_trans h.under hb.size, h.le, h.cap, h.small, h.nil⟩
theorem Arg.more {w : World} {B B' n c : Nat} {A : Option Addr} {zs : List Int} (h : Arg w B A n c zs) (hB : B ≤ B') (hu : B' ≤ w.heap.size) : Arg w B' A n c zs := ⟨h.reads.more hB, hu, h.le, h.cap, h.small, h.nil⟩
theorem Ints.arg {w : World} {B n c : Nat} {A : Option Addr} {zs : List Int} (h : Ints w B (.slice A n c) zs) (hn : n ≤ 1048576) (hc : n ≤ c) (hz : Small zs) : Arg w w.heap.size A n c zs := ⟨h.reads, Nat.le_refl _, hn, hc, hz, fun hA => by
  rcases h.2 with ⟨hv, _⟩ | ⟨g, cap, cur, e, hv, _⟩
  · injection hv
  · injection hv with h1; rw [h1] at hA; cases hA⟩
theorem small_of_wf {zs : List Int} (h : ∀ z ∈ zs, (Lit.int .i64 z).wf = true) : Small zs := fun z hz => by
  simpa [Lit.wf, IntKind.min, IntKind.max, IntKind.signed, IntKind.bits] using h z hz
theorem cellsInt : Try.prog.cellsOf 3 = 1 := by kernel_rfl

set_option maxHeartbeats 400000 in
/-- toIntS: a row of the call's own with the same numbers. -/
theorem toi_any (A : Option Addr) (n c B : Nat) (zs : List Int) (w : World) (hr : Reads w B A n (i64s zs)) (hB : B ≤ w.heap.size) (hn : n ≤ 1099511627776) :
    Calls Try.prog 6 #[.slice A n c] w fun e w' => e = .returned (.slice (some ⟨w.heap.size, 0, none⟩) n n) ∧ Ints w' w.heap.size (.slice (some ⟨w.heap.size, 0, none⟩) n n) zs ∧ Below w.heap.size w w' := by
  obtain ⟨i0, hi, hz0, hz1, hz2⟩ := info_parts intInfo
  go_enter Try.func6, Try.ntmps6
  go_wp2_with (first
    | (at_make; refine wpList_make_full _ rfl (.tmp 6) (.tmp 6) 22 rfl w.heap.size 3 i0 (.int .i64 0) 1 Try.underlying22 hi hz0 hz1 _ _ _ _ n rfl rfl (by first | rfl | omega) (by first | rfl | omega) (by rw [hz2]; omega) (by unfold maxLen; omega) (Nat.le_refl _) ?_; intro w1 hown hg))
  have hb1 : Below w.heap.size w w1 := (Below.refl _ _).grown hg (Nat.le_refl _) (by simp)
  clear hg
  go_loopw [4] (fun i wr => ∃ (k : Nat) (xs : List Value), k ≤ n ∧ i = .int .i64 k ∧ Below w.heap.size w wr ∧ wr.ownsRow w.heap.size 3 1 (.slice (some ⟨w.heap.size, 0, none⟩) n n) n xs ∧ Hid (xs.take k = (i64s zs).take k)) (fun i _ => n - (intOf i).toNat)
  case atStart => exact ⟨0, _, Nat.zero_le _, rfl, hb1, hown, by exact rfl⟩
  case round =>
    obtain ⟨k, xs, hk, rfl, hb, hown', hx⟩ := hrel
    clear hown hb1
    by_cases hlt : k < n
    · obtain ⟨ad, u, rfl, had, hu, hc⟩ := ((hr.more hB).below hb).at_ hlt
      obtain ⟨s, hs, rfl⟩ := i64_at hu
      have hl : xs.length = n := by simpa using hown'.1
      obtain ⟨old, hold⟩ : ∃ old, wr.cell? ⟨w.heap.size, k, none⟩ = some old := ⟨_, by rw [hown'.cellAt k (by omega)]; exact List.getElem?_eq_getElem (by omega)⟩
      have hfz := hown'.frozenAt k
      have hst := hide (take_set_i (unhide hx) hu (by omega))
      have ho2 := (hown'.stored k (.int .i64 s)).1
      have hb2 := below_set_i hb hown' k (.int .i64 s)
      have hkn : k + 1 ≤ n := by omega
      clear hx hu hs hown' hb hl
      go_wp2
      go_roundw
      case rel => exact ⟨k + 1, _, hkn, by go_num, hb2, ho2, hst⟩
      case measure => simp [intOf]; omega
    · obtain rfl : n = k := by omega
      have hlx : xs.length = n := by simpa using hown'.1
      have hlr : zs.length = n := by have := hr.1; rwa [i64_length] at this
      have : xs = i64s zs := by
        have h := unhide hx
        rwa [List.take_of_length_le (by omega), List.take_of_length_le (by rw [i64_length]; omega)] at h
      subst this
      have hI : Ints wr w.heap.size (.slice (some ⟨w.heap.size, 0, none⟩) n n) zs := Ints.of_own hown'
      clear hx hlx hlr hown'
      go_wp2
      go_ret
      exact ⟨rfl, hI, hb⟩
set_option maxHeartbeats 400000 in
/-- eqIntS: equal lists. -/
theorem eqi_any (A A' : Option Addr) (n c n' c' B B' : Nat) (zs : List Int) (w : World) (hr : Reads w B A n (i64s zs)) (hr' : Reads w B' A' n' (i64s zs)) (hn : n ≤ 1099511627776) :
    Calls Try.prog 8 #[.slice A n c, .slice A' n' c'] w fun e w' => e = .returned (.bool true) ∧ Drew w w' := by
  have e1 : zs.length = n := by have := hr.1; rwa [i64_length] at this
  have e2 : zs.length = n' := by have := hr'.1; rwa [i64_length] at this
  obtain rfl : n = n' := by omega
  clear e1 e2
  go_enter Try.func8, Try.ntmps8
  go_wp2
  go_loopw [5] (fun i wr => ∃ k : Nat, k ≤ n ∧ i = .int .i64 k ∧ Drew w wr) (fun i _ => n - (intOf i).toNat)
  case atStart => exact ⟨0, Nat.zero_le _, rfl, Drew.refl _⟩
  case round =>
    obtain ⟨k, hk, rfl, hd⟩ := hrel
    by_cases hlt : k < n
    · obtain ⟨ad, u, rfl, _, hx, hc⟩ := (hr.ofDrew hd).at_ hlt
      obtain ⟨ad', u', rfl, _, hx', hc'⟩ := (hr'.ofDrew hd).at_ hlt
      obtain ⟨s, hs, rfl⟩ := i64_at hx
      obtain ⟨s', hs', rfl⟩ := i64_at hx'
      obtain rfl : s = s' := by rw [hs] at hs'; exact Option.some.inj hs'
      clear hx hx' hs hs' hr hr'
      have HD := hide hd
      clear hd
      go_wp2
      go_quiet (fail)
      go_wp2
      go_roundw
      case rel => exact ⟨k + 1, by omega, by go_num, (unhide HD).more _⟩
      case measure => simp [intOf]; omega
    · go_wp2
      go_ret
      exact ⟨rfl, hd⟩
/-- The marks from k on. -/
def marksI (k n : Nat) : List Int := (List.range n).map fun j => ((k + j : Nat) : Int)
theorem marksI_length (k n : Nat) : (marksI k n).length = n := by simp [marksI]
theorem marksI_at {k n j : Nat} (h : j < n) : (marksI k n)[j]? = some ((k + j : Nat) : Int) := by simp [marksI, h]
set_option maxHeartbeats 800000 in
/-- markIntS at a row of the call's own. -/
theorem marki_any (A : Option Addr) (n c base k : Nat) (zs : List Int) (w : World) (hown : Ints w base (.slice A n c) zs) (hkn : k + n ≤ 1099511627776) :
    Calls Try.prog 9 #[.slice A n c, .int .i64 k] w fun e w' => e = .returned (.int .i64 ((k + n : Nat) : Int)) ∧
      Ints w' base (.slice A n c) (marksI k n) ∧ w.grownBy w' (Value.slice A n c).ownBlock := by
  have hzn : zs.length = n := by
    obtain ⟨A', c', hv⟩ := hown.slice
    injection hv with _ h2; exact h2.symm
  have hown : Row w base (.slice A n c) n (i64s zs) := by unfold Ints at hown; rwa [hzn] at hown
  clear hzn
  go_enter Try.func9, Try.ntmps9
  go_wp2
  go_loopw [1, 5] (fun kv i wr => ∃ (j : Nat) (ys : List Value), j ≤ n ∧ kv = .int .i64 ((k + j : Nat) : Int) ∧ i = .int .i64 j ∧ w.grownBy wr (Value.slice A n c).ownBlock ∧ Row wr base (.slice A n c) n ys ∧ Hid (ys.take j = (i64s (marksI k n)).take j)) (fun _ i _ => n - (intOf i).toNat)
  case atStart => exact ⟨0, _, Nat.zero_le _, rfl, rfl, World.grownBy.refl w _, hown, rfl⟩
  case round =>
    obtain ⟨j, ys, hj, rfl, rfl, hgr, hown', hy⟩ := hrel
    clear hown
    by_cases hlt : j < n
    · have hyl : ys.length = n := by simpa using hown'.1
      obtain ⟨g, hA⟩ : ∃ g, A = some ⟨g, 0, none⟩ := by
        rcases hown'.2 with ⟨_, h0⟩ | ⟨g, cap, cur, e, hv, _⟩
        · omega
        · injection hv with h1; exact ⟨g, h1⟩
      subst hA
      obtain ⟨old, hold⟩ : ∃ old, wr.cell? ⟨g, j, none⟩ = some old := ⟨_, by rw [hown'.cells (g := g) rfl j (by omega)]; exact List.getElem?_eq_getElem (by omega)⟩
      have hfz := hown'.frozen (g := g) rfl j
      have ho2 := (hown'.stored (g := g) rfl j (.int .i64 ((k + j : Nat) : Int))).1
      have hg2 := grown_then hgr (hown'.stored (g := g) rfl j (.int .i64 ((k + j : Nat) : Int))).2
      have hnext := hide (take_set_i (ys := i64s (marksI k n)) (unhide hy) (i64_get (marksI_at hlt)) (by omega))
      clear hown' hgr hy hyl
      go_wp2
      go_roundw
      case rel => exact ⟨j + 1, _, by omega, by go_num, by go_num, hg2, ho2, hnext⟩
      case measure => simp [intOf]; omega
    · obtain rfl : n = j := by omega
      have hyl : ys.length = n := by simpa using hown'.1
      have hE : ys = i64s (marksI k n) := by
        have h := unhide hy
        rwa [List.take_of_length_le (by omega), List.take_of_length_le (by rw [i64_length, marksI_length]; omega)] at h
      subst hE
      have hI : Ints wr base (.slice A n c) (marksI k n) := by unfold Ints; rw [marksI_length]; exact hown'
      clear hy hyl hown'
      go_wp2
      go_ret
      exact ⟨rfl, hI, hgr⟩
theorem marki_at (A : Option Addr) (n c base k : Nat) (K : Int) (hK : K = (k : Int)) (zs : List Int) (w : World) (hown : Ints w base (.slice A n c) zs) (hkn : k + n ≤ 1099511627776) :
    Calls Try.prog 9 #[.slice A n c, .int .i64 K] w fun e w' => e = .returned (.int .i64 (K + (n : Int))) ∧
      Ints w' base (.slice A n c) (marksI k n) ∧ w.grownBy w' (Value.slice A n c).ownBlock := by
  subst hK
  refine (marki_any A n c base k zs w hown hkn).mono ?_
  rintro e w' ⟨rfl, h1, h2⟩
  exact ⟨ret_int (by omega), h1, h2⟩
set_option maxHeartbeats 800000 in
/-- heldIntS where the marks stand. -/
theorem heldi_any (A : Option Addr) (n c B k : Nat) (w : World) (hr : Reads w B A n (i64s (marksI k n))) (hkn : k + n ≤ 1099511627776) :
    Calls Try.prog 10 #[.slice A n c, .int .i64 k] w fun e w' => e = .returned (.int .i64 ((k + n : Nat) : Int)) ∧ w = w' := by
  go_enter Try.func10, Try.ntmps10
  go_wp2
  go_loop [1, 5] (fun kv i => ∃ j : Nat, j ≤ n ∧ kv = .int .i64 ((k + j : Nat) : Int) ∧ i = .int .i64 j) (fun _ i => n - (intOf i).toNat)
  case atStart => exact ⟨0, Nat.zero_le _, rfl, rfl⟩
  case round =>
    obtain ⟨j, hj, rfl, rfl⟩ := hrel
    by_cases hlt : j < n
    · obtain ⟨ad, u, rfl, had, hu, hc⟩ := hr.at_ hlt
      obtain ⟨s, hs, rfl⟩ := i64_at hu
      obtain rfl : ((k + j : Nat) : Int) = s := by rw [marksI_at hlt] at hs; exact Option.some.inj hs
      clear hu hs
      go_wp2
      go_round
      case rel => exact ⟨j + 1, by omega, by go_num, by go_num⟩
      case measure => simp [intOf]; omega
    · obtain rfl : n = j := by omega
      go_wp2
      go_ret
      exact ⟨rfl, rfl⟩
theorem heldi_at (A : Option Addr) (n c B k : Nat) (K : Int) (hK : K = (k : Int)) (w : World) (hr : Reads w B A n (i64s (marksI k n))) (hkn : k + n ≤ 1099511627776) :
    Calls Try.prog 10 #[.slice A n c, .int .i64 K] w fun e w' => e = .returned (.int .i64 (K + (n : Int))) ∧ w = w' := by
  subst hK
  refine (heldi_any A n c B k w hr hkn).mono ?_
  rintro e w' ⟨rfl, h1⟩
  exact ⟨ret_int (by omega), h1⟩
end Go.Proofs.Ythndeaodpjelgaa


/-
  spec.l1In, spec.l2Has and spec.IsPerm, by their contracts.
-/

namespace Go.Proofs.Ythndeaodpjelgaa
set_option maxRecDepth 100000
open Go.RowKit

theorem l1in_any (x lo hi : Int) (b : Bool) (hb : decide (lo ≤ x ∧ x ≤ hi) = b) (w : World) :
    Calls Try.prog 14 #[.int .i64 x, .int .i64 lo, .int .i64 hi] w fun e w' => e = .returned (.bool b) ∧ w' = w := by
  by_cases h1 : lo ≤ x
  · by_cases h2 : x ≤ hi
    · obtain rfl : b = true := by rw [← hb]; simp [h1, h2]
      clear hb
      go_enter Try.func14, Try.ntmps14
      go_wp2
      go_ret
      exact ⟨rfl, rfl⟩
    · obtain rfl : b = false := by rw [← hb]; simp [h2]
      clear hb
      go_enter Try.func14, Try.ntmps14
      go_wp2
      go_ret
      exact ⟨rfl, rfl⟩
  · obtain rfl : b = false := by rw [← hb]; simp [h1]
    clear hb
    go_enter Try.func14, Try.ntmps14
    go_wp2
    go_ret
    exact ⟨rfl, rfl⟩

theorem has_step {zs : List Int} {k : Nat} {y z : Int} (hz : zs[k]? = some y) (hne : y ≠ z) (h : z ∉ zs.take k) : z ∉ zs.take (k + 1) := by
  rw [take_snoc_i hz, List.mem_append, List.mem_singleton]
  rintro (h' | h')
  · exact h h'
  · exact hne h'.symm
theorem l2has_any (A : Option Addr) (n c B : Nat) (zs : List Int) (z : Int) (b : Bool) (hb : decide (z ∈ zs) = b) (w : World) (hr : Reads w B A n (i64s zs)) (hn : n ≤ 1099511627776) :
    Calls Try.prog 20 #[.slice A n c, .int .i64 z] w fun e w' => e = .returned (.bool b) ∧ w' = w := by
  have HB := hide hb
  clear hb
  go_enter Try.func20, Try.ntmps20
  go_wp2
  go_loop [5] (fun i => ∃ k : Nat, k ≤ n ∧ i = .int .i64 k ∧ Hid (z ∉ zs.take k)) (fun i => n - (intOf i).toNat)
  case atStart => exact ⟨0, Nat.zero_le _, rfl, by exact (by simp : z ∉ zs.take 0)⟩
  case round =>
    obtain ⟨k, hk, rfl, hno⟩ := hrel
    by_cases hlt : k < n
    · obtain ⟨ad, u, rfl, had, hu, hc⟩ := hr.at_ hlt
      obtain ⟨y, hy, rfl⟩ := i64_at hu
      clear hu
      by_cases he : y = z
      · subst he
        have hin : decide (y ∈ zs) = true := by simp [List.mem_of_getElem? hy]
        obtain rfl : b = true := (unhide HB).symm.trans hin
        clear hin hy HB hno
        go_wp2
        go_ret
        exact ⟨rfl, rfl⟩
      · have hnext := hide (has_step hy he (unhide hno))
        have he' : (y == z) = false := by simpa using he
        clear hno hy HB he
        go_wp2
        go_round
        case rel => exact ⟨k + 1, by omega, by go_num, hnext⟩
        case measure => simp [intOf]; omega
    · obtain rfl : n = k := by omega
      have hl : zs.length = n := by have := hr.1; rwa [i64_length] at this
      have hin : decide (z ∈ zs) = false := by
        have h := unhide hno
        rw [List.take_of_length_le (by omega)] at h
        simpa using h
      obtain rfl : b = false := (unhide HB).symm.trans hin
      clear hin HB hno hl
      go_wp2
      go_ret
      exact ⟨rfl, rfl⟩

theorem Reads.pre {w : World} {B n k : Nat} {A : Option Addr} {zs : List Int} (h : Reads w B A n (i64s zs)) (hk : k ≤ n) : Reads w B A k (i64s (zs.take k)) := by
  have hl : zs.length = n := by have := h.1; rwa [i64_length] at this
  refine ⟨by rw [i64_length, List.length_take]; omega, fun h0 => ?_⟩
  obtain ⟨ad, e, hb, hc⟩ := h.2 (by omega)
  refine ⟨ad, e, hb, fun j u hu => hc j u ?_⟩
  unfold i64s at hu ⊢
  rw [List.getElem?_map, List.getElem?_take] at hu
  rw [List.getElem?_map]
  by_cases hj : j < k
  · rwa [if_pos hj] at hu
  · rw [if_neg hj] at hu; cases hu
theorem Reads.len {w : World} {B n : Nat} {A : Option Addr} {zs : List Int} (h : Reads w B A n (i64s zs)) : zs.length = n := by have := h.1; rwa [i64_length] at this
theorem range_of {zs : List Int} {n : Nat} {z : Int} (hl : zs.length = n) (h : decide ((1 : Int) ≤ z ∧ z ≤ (n : Int)) = true) : 1 ≤ z ∧ z ≤ (zs.length : Int) := by rw [hl]; simpa using h
theorem range_not {zs : List Int} {n : Nat} {z : Int} (hl : zs.length = n) (h : decide ((1 : Int) ≤ z ∧ z ≤ (n : Int)) = false) : ¬ (1 ≤ z ∧ z ≤ (zs.length : Int)) := by rw [hl]; simpa using h

set_option maxHeartbeats 800000 in
theorem sisperm_any (A : Option Addr) (n c B : Nat) (zs : List Int) (b : Bool) (hb : isP zs = b) (w : World) (hr : Reads w B A n (i64s zs)) (hn : n ≤ 1048576) (hc : n ≤ c) :
    Calls Try.prog 13 #[.slice A n c] w fun e w' => e = .returned (.bool b) ∧ Drew w w' := by
  have HB := hide hb
  clear hb
  have hl := hr.len
  by_cases h8 : n ≤ 8
  · have HL := hide hl
    clear hl
    go_enter Try.func13, Try.ntmps13
    go_wp2
    go_loopw [3] (fun i wr => ∃ k : Nat, k ≤ n ∧ i = .int .i64 k ∧ Drew w wr ∧ Hid (Seen zs k)) (fun i _ => n - (intOf i).toNat)
    case atStart => exact ⟨0, Nat.zero_le _, rfl, Drew.refl _, by exact Seen.zero zs⟩
    case round =>
      obtain ⟨k, hk, rfl, hd, hs⟩ := hrel
      by_cases hlt : k < n
      · obtain ⟨ad, u, rfl, had, hu, hcell⟩ := (hr.ofDrew hd).at_ hlt
        obtain ⟨z, hz, rfl⟩ := i64_at hu
        have hpre := (hr.ofDrew hd).pre hk
        have HZ := hide hz
        have HD := hide hd
        clear hu hz hd
        obtain ⟨b1, hb1⟩ : ∃ b1, decide ((1 : Int) ≤ z ∧ z ≤ (n : Int)) = b1 := ⟨_, rfl⟩
        obtain ⟨b2, hb2⟩ : ∃ b2, decide (z ∈ zs.take k) = b2 := ⟨_, rfl⟩
        have HB1 := hide hb1
        have HB2 := hide hb2
        clear hb1 hb2
        have hkc : k ≤ c := by omega
        cases b1 with
        | false =>
          obtain rfl : b = false := (unhide HB).symm.trans (isP_no_range (unhide HZ) (range_not (unhide HL) (unhide HB1)))
          clear HB
          go_wp2
          go_quiet ((first | (go_at_call 14; exact Calls.quiet_of_same (l1in_any _ _ _ _ (unhide HB1) _)) | (go_at_call 20; exact Calls.quiet_of_same (l2has_any _ _ _ _ _ _ _ (unhide HB2) _ hpre (by omega)))))
          go_wp2
          go_ret
          exact ⟨rfl, (unhide HD).more _⟩
        | true =>
          cases b2 with
          | true =>
            obtain rfl : b = false := (unhide HB).symm.trans (isP_no_twice (unhide HZ) (by simpa using unhide HB2))
            clear HB
            go_wp2
            go_quiet ((first | (go_at_call 14; exact Calls.quiet_of_same (l1in_any _ _ _ _ (unhide HB1) _)) | (go_at_call 20; exact Calls.quiet_of_same (l2has_any _ _ _ _ _ _ _ (unhide HB2) _ hpre (by omega)))))
            go_wp2
            go_ret
            exact ⟨rfl, (unhide HD).more _⟩
          | false =>
            have hnext := hide ((unhide hs).step (unhide HZ) (range_of (unhide HL) (unhide HB1)) (by simpa using unhide HB2))
            go_wp2
            go_quiet ((first | (go_at_call 14; exact Calls.quiet_of_same (l1in_any _ _ _ _ (unhide HB1) _)) | (go_at_call 20; exact Calls.quiet_of_same (l2has_any _ _ _ _ _ _ _ (unhide HB2) _ hpre (by omega)))))
            go_wp2
            go_roundw
            case rel => exact ⟨k + 1, by omega, by go_num, (unhide HD).more _, hnext⟩
            case measure => simp [intOf]; omega
      · obtain rfl : n = k := by omega
        obtain rfl : b = true := (unhide HB).symm.trans (Seen.isP (by rw [unhide HL]; exact unhide hs) (by rw [unhide HL]; exact h8))
        clear HB hs
        have h8b : decide ((n : Int) ≤ 8) = true := by simp; omega
        go_wp2
        go_ret
        exact ⟨rfl, hd⟩
  · obtain rfl : b = false := (unhide HB).symm.trans (isP_long (by omega))
    clear HB hl
    have h8' : 8 < n := by omega
    go_enter Try.func13, Try.ntmps13
    go_wp2
    go_loopw [3] (fun i wr => i = .int .i64 0 ∧ w = wr) (fun i _ => 0)
    case atStart => exact ⟨rfl, rfl⟩
    case round =>
      obtain ⟨rfl, rfl⟩ := hrel
      have h8b : decide ((n : Int) ≤ 8) = false := by simp; omega
      go_wp2
      go_ret
      exact ⟨rfl, Drew.refl _⟩

end Go.Proofs.Ythndeaodpjelgaa


/-
  A block known whole (its cells, its type, nothing frozen); arrays of eight integers as values.
-/

namespace Go.Proofs.Ythndeaodpjelgaa
set_option maxRecDepth 100000
open Go.RowKit

/-- Block g holds these cells of this type, and none is frozen. -/
def Whole (w : World) (g : Nat) (t : TypeId) (cs : Array Value) : Prop := w.heap[g]? = some (.cells cs t (0, 0))
section
variable {w w' : World} {g : Nat} {t : TypeId} {cs : Array Value}
theorem Whole.lt (h : Whole w g t cs) : g < w.heap.size := by
  unfold Whole at h
  exact (Array.getElem?_eq_some_iff.1 h).1
theorem Whole.cell (h : Whole w g t cs) (i : Nat) : w.cell? ⟨g, i, none⟩ = cs[i]? := cell_of_row w g i cs t (0, 0) h
theorem Whole.frozen (h : Whole w g t cs) (i : Nat) : w.frozen? ⟨g, i, none⟩ = false := by
  unfold Whole at h
  simp [World.frozen?, h]
theorem Whole.new (w : World) (t : TypeId) (cs : Array Value) : Whole (w.alloc (.cells cs t)) w.heap.size t cs := heap_alloc_new w _
theorem Whole.drewN (h : Whole w g t cs) (n : Nat) : Whole (w.drewN n) g t cs := h
theorem Whole.alloc (h : Whole w g t cs) (o : Obj) : Whole (w.alloc o) g t cs := (Below.heap_alloc w o g h.lt).trans h
theorem Whole.put (h : Whole w g t cs) (i : Nat) (u : Value) : Whole (w.setCell ⟨g, i, none⟩ u) g t (cs.setIfInBounds i u) := by
  unfold Whole at h ⊢
  simp [World.setCell, Array.getElem?_modify, h]
theorem Whole.far (h : Whole w g t cs) {p : Addr} (hp : g ≠ p.block) (u : Value) : Whole (w.setCell p u) g t cs := (Below.heap_setCell w p u g hp).trans h
theorem Whole.below {B : Nat} (h : Whole w g t cs) (hb : Below B w w') (hg : g < B) : Whole w' g t cs := (hb.block g hg).trans h
theorem Whole.grown {row : Option Nat} (h : Whole w g t cs) (hb : w.grownBy w' row) (hg : some g ≠ row) : Whole w' g t cs := (hb.block g h.lt hg).trans h
end
theorem below_drew (B : Nat) (w : World) : Below B w w.drew := ⟨rfl, rfl, rfl, Nat.le_refl _, fun _ _ => rfl⟩
/-- An array's cells. -/
def arr (l : List Int) : Array Value := (i64s l).toArray
theorem arr_at {l : List Int} {k : Nat} {z : Int} (h : l[k]? = some z) : (arr l)[k]? = some (.int .i64 z) := by unfold arr; rw [List.getElem?_toArray]; exact i64_get h
theorem arr_set (l : List Int) (k : Nat) (z : Int) : (arr l).setIfInBounds k (.int .i64 z) = arr (l.set k z) := by
  unfold arr i64s
  rw [List.setIfInBounds_toArray, List.map_set]
theorem arr_size (l : List Int) : (arr l).size = l.length := by unfold arr; rw [List.size_toArray, i64_length]
end Go.Proofs.Ythndeaodpjelgaa


/-
  impl.ascendingArray, by its contract.
-/

namespace Go.Proofs.Ythndeaodpjelgaa
set_option maxRecDepth 100000
open Go.RowKit

theorem permInfo : (Try.prog.info? 34).map (·.size) = some 8 := by kernel_rfl
theorem arr_one (l : List Int) : (arr l).all (·.oneCell') = true := by
  unfold arr i64s
  simp only [List.all_toArray, List.all_map, List.all_eq_true]
  intro z _
  rfl
theorem zeros_asc : (#[Value.int .i64 0, Value.int .i64 0, Value.int .i64 0, Value.int .i64 0, Value.int .i64 0, Value.int .i64 0, Value.int .i64 0, Value.int .i64 0] : Array Value) = arr (ascL 0) := by rw [ascL_zero]; rfl
theorem below_set_row {B : Nat} {w w' : World} (hb : Below B w w') (g : Nat) (cs : Array Value) (hg : B ≤ g) : Below B w (w'.setRow g cs) :=
  hb.trans ⟨rfl, rfl, rfl, by simp [World.setRow], fun k hk => setRow_other w' g k cs (by omega)⟩

set_option maxHeartbeats 400000 in
theorem asc_any (n : Nat) (hn : n ≤ 8) (w : World) :
    Calls Try.prog 21 #[.int .i64 n] w fun e w' => e = .returned (.agg (arr (ascL n))) ∧ Below w.heap.size w w' := by
  go_enter Try.func21, Try.ntmps21
  go_wp2
  rw [zeros_asc]
  go_loopw [4, 6] (fun _ i wr => ∃ k : Nat, k ≤ n ∧ i = .int .i64 k ∧ Below w.heap.size w wr ∧ Whole wr w.heap.size 34 (arr (ascL 0)) ∧ Whole wr (w.heap.size + 1) 34 (arr (ascL k))) (fun _ i _ => n - (intOf i).toNat)
  case atStart =>
    have h1 := Whole.new w 34 (arr (ascL 0))
    have h2 := Whole.new (w.alloc (.cells (arr (ascL 0)) 34)) 34 (arr (ascL 0))
    rw [show (w.alloc (.cells (arr (ascL 0)) 34)).heap.size = w.heap.size + 1 by simp] at h2
    exact ⟨0, Nat.zero_le _, rfl, ((Below.refl _ _).alloc (Nat.le_refl _) _).alloc (by simp) _, h1.alloc _, h2⟩
  case round =>
    obtain ⟨k, hk, rfl, hb, hw0, hw1⟩ := hrel
    by_cases hlt : k < n
    · have hk8 : k < 8 := by omega
      obtain ⟨old, hold⟩ : ∃ old, wr.cell? ⟨w.heap.size + 1, k, none⟩ = some old := by
        rw [hw1.cell]
        exact ⟨_, Array.getElem?_eq_getElem (by rw [arr_size, ascL_length]; exact hk8)⟩
      have hfz := hw1.frozen k
      have n1 := hw1.put k (.int .i64 ((k : Int) + 1))
      rw [arr_set, ascL_step] at n1
      have n0 := hw0.far (p := ⟨w.heap.size + 1, k, none⟩) (by simp) (.int .i64 ((k : Int) + 1))
      have nb := hb.setCell (p := ⟨w.heap.size + 1, k, none⟩) (by simp) (.int .i64 ((k : Int) + 1))
      clear hw0 hw1 hb
      go_wp2
      go_roundw
      case rel => exact ⟨k + 1, by omega, by go_num, nb, n0, n1⟩
      case measure => simp [intOf]; omega
    · obtain rfl : n = k := by omega
      go_wp2_with (first
        | (refine wpList_load_row rfl 34 (.tmp 3) rfl (w.heap.size + 1) rfl 34 (arr (ascL n)) (0, 0) _ hw1 Try.underlying34 rfl (by rw [arr_size, ascL_length]; exact permInfo) ?_)
        | (refine wpList_store_row rfl 34 (.tmp 2) (.tmp 14) rfl w.heap.size (arr (ascL n)) rfl rfl 34 (arr (ascL 0)) hw0 (by rw [arr_size, ascL_length]; exact permInfo) (by rw [arr_size, arr_size, ascL_length, ascL_length]) (arr_one _) ?_))
      refine bodyPost_ret (v := .agg (arr (ascL n))) (results_cell_row Try.results21 _ _ w.heap.size 34 (arr (ascL n)) (0, 0) _ rfl (setRow_heap _ _ _ _ _ _ hw0) Try.underlying34 rfl (by rw [arr_size, ascL_length]; exact permInfo)) rfl ?_
      exact ⟨rfl, below_set_row hb _ _ (Nat.le_refl _)⟩
end Go.Proofs.Ythndeaodpjelgaa
