/-
  Words and contracts that the laws lean on, bundled: OccM, SymG, OccN, NearM, PermT, NearX, SplitM, Mem, ParM.
-/
import Derived.Test.YtabfjmabiapgoaaDoorB1
import Derived.Lib.ItoaNum
import Derived.Lib.Split
import Derived.Lib.SplitLaws
import Derived.Lib.IndexBytes
import Derived.Lib.Join
import Derived.Below
import Derived.Laws.OwnMore
import Derived.Deep.AppendLies
import Derived.Deep.Draws
import Derived.WalkKit

/-
  PLAIN: lists that stand alike; occurrences of a permutation in a permutation. Nothing here speaks of the program.
-/

namespace Go.Proofs.YtabfjmabiapgoaaDoor
set_option maxRecDepth 100000

theorem at0_zero (a : Int) (l : List Int) : at0 (a :: l) 0 = a := rfl
theorem at0_succ (a : Int) (l : List Int) (i : Nat) : at0 (a :: l) (i + 1) = at0 l i := rfl
theorem at0_mem {l : List Int} {i : Nat} (h : i < l.length) : at0 l i ∈ l := List.mem_of_getElem? (at0_some h)
theorem at0_app {a b : List Int} {i : Nat} (h : i < a.length) : at0 (a ++ b) i = at0 a i := at0_of (by rw [List.getElem?_append_left h]; exact at0_some h)
theorem at0_last (a : List Int) (x : Int) : at0 (a ++ [x]) a.length = x := at0_of (by simp)
theorem at0_take {l : List Int} {i k : Nat} (h : i < k) (hl : i < l.length) : at0 (l.take k) i = at0 l i := at0_of (by rw [List.getElem?_take, if_pos h]; exact at0_some hl)
theorem ext_at0 {a b : List Int} (hl : a.length = b.length) (h : ∀ i, i < a.length → at0 a i = at0 b i) : a = b := by
  refine List.ext_getElem? fun i => ?_
  by_cases hi : i < a.length
  · rw [at0_some hi, at0_some (by omega), h i hi]
  · rw [List.getElem?_eq_none (by omega), List.getElem?_eq_none (by omega)]

/-- Two lists stand alike: their numbers are in the same order. -/
def Alike (v u : List Int) : Prop := v.length = u.length ∧ ∀ i j, i < v.length → j < v.length → (at0 v i < at0 v j ↔ at0 u i < at0 u j)
theorem cnt_pt : ∀ {v u : List Int} {x y : Int}, v.length = u.length → (∀ i, i < v.length → (at0 v i < x ↔ at0 u i < y)) → cnt v x = cnt u y
  | [], [], _, _, _, _ => rfl
  | [], _ :: _, _, _, h, _ => by simp at h
  | _ :: _, [], _, _, h, _ => by simp at h
  | a :: v, b :: u, x, y, h, hp => by
    have h0 := hp 0 (by simp)
    rw [at0_zero, at0_zero] at h0
    have ih := cnt_pt (v := v) (u := u) (x := x) (y := y) (by simpa using h) fun i hi => by
      have := hp (i + 1) (by simp; omega)
      rwa [at0_succ, at0_succ] at this
    rw [cnt_cons, cnt_cons, ih]
    by_cases hx : a < x
    · rw [if_pos hx, if_pos (h0.1 hx)]
    · rw [if_neg hx, if_neg (fun h => hx (h0.2 h))]
theorem patL_at0 {l : List Int} {i : Nat} (h : i < l.length) : at0 (patL l) i = 1 + (cnt l (at0 l i) : Int) := at0_of (patL_at (at0_some h))
theorem patL_alike {v u : List Int} (h : Alike v u) : patL v = patL u := by
  refine ext_at0 (by rw [patL_length, patL_length]; exact h.1) fun i hi => ?_
  rw [patL_length] at hi
  have hl := h.1
  rw [patL_at0 hi, patL_at0 (by omega), cnt_pt hl fun j hj => h.2 j i hj hi]
theorem cnt_iff {l : List Int} {a b : Int} (ha : a ∈ l) : a < b ↔ cnt l a < cnt l b := by
  constructor
  · intro h; have := cnt_lt ha h; omega
  · intro h
    by_cases hb : b ≤ a
    · have := cnt_mono l hb; omega
    · omega
theorem alike_patL {v u : List Int} (h : patL v = patL u) : Alike v u := by
  have hl : v.length = u.length := by have := congrArg List.length h; rwa [patL_length, patL_length] at this
  refine ⟨hl, fun i j hi hj => ?_⟩
  have e : ∀ k, k < v.length → cnt v (at0 v k) = cnt u (at0 u k) := fun k hk => by
    have h1 : at0 (patL v) k = at0 (patL u) k := by rw [h]
    rw [patL_at0 hk, patL_at0 (by omega)] at h1
    omega
  rw [cnt_iff (at0_mem hi), cnt_iff (l := u) (at0_mem (by omega)), e i hi, e j hj]
theorem patL_self {p : List Int} (h : isP p = true) : patL p = p := by
  refine ext_at0 (patL_length p) fun i hi => ?_
  rw [patL_length] at hi
  rw [patL_at0 hi, cnt_isP h (at0_mem hi)]
  omega
theorem Alike.symm {v u : List Int} (h : Alike v u) : Alike u v := ⟨h.1.symm, fun i j hi hj => (h.2 i j (by rw [h.1]; exact hi) (by rw [h.1]; exact hj)).symm⟩
theorem Alike.trans {a b c : List Int} (h : Alike a b) (k : Alike b c) : Alike a c := ⟨h.1.trans k.1, fun i j hi hj => (h.2 i j hi hj).trans (k.2 i j (by rw [← h.1]; exact hi) (by rw [← h.1]; exact hj))⟩
theorem alike_pat (v : List Int) : Alike (patL v) v := ⟨patL_length v, fun i j hi hj => by
  rw [patL_length] at hi hj
  rw [patL_at0 hi, patL_at0 hj, cnt_iff (at0_mem hi)]
  omega⟩
theorem pat_eq_iff {v q : List Int} (hq : isP q = true) : patL v = q ↔ Alike v q := by
  constructor
  · intro h; exact alike_patL (by rw [h, patL_self hq])
  · intro h; rw [patL_alike h, patL_self hq]
theorem isP_ne {p : List Int} (h : isP p = true) {i j : Nat} (hi : i < p.length) (hj : j < p.length) (hne : i ≠ j) : at0 p i ≠ at0 p j := fun e => hne (isP_same h (at0_some hi) (by rw [e]; exact at0_some hj))

/-! occurrences -/
/-- The numbers at places. -/
def nums (p pl : List Int) : List Int := pl.map fun x => at0 p (x.toNat - 1)
theorem nums_length (p pl : List Int) : (nums p pl).length = pl.length := by simp [nums]
theorem nums_at0 {p pl : List Int} {i : Nat} (h : i < pl.length) : at0 (nums p pl) i = at0 p ((at0 pl i).toNat - 1) := at0_of (by unfold nums; rw [List.getElem?_map, at0_some h]; rfl)
theorem nums_snoc (p pl : List Int) (x : Int) : nums p (pl ++ [x]) = nums p pl ++ [at0 p (x.toNat - 1)] := by simp [nums]
theorem nums_take (p pl : List Int) (k : Nat) : nums p (pl.take k) = (nums p pl).take k := by simp [nums, List.map_take]
def PlOK (n : Nat) (pl : List Int) : Prop := (∀ x ∈ pl, 1 ≤ x ∧ x ≤ (n : Int)) ∧ pl.Pairwise (· < ·)
instance (n : Nat) (pl : List Int) : Decidable (PlOK n pl) := inferInstanceAs (Decidable (_ ∧ _))
theorem PlOK.nil (n : Nat) : PlOK n [] := ⟨fun x hx => by simp at hx, List.Pairwise.nil⟩
theorem PlOK.take {n : Nat} {pl : List Int} (h : PlOK n pl) (k : Nat) : PlOK n (pl.take k) := ⟨fun x hx => h.1 x (List.mem_of_mem_take hx), h.2.sublist (List.take_sublist _ _)⟩
theorem PlOK.mono {n : Nat} {pl : List Int} (h : PlOK n pl) {i j : Nat} (hij : i < j) (hj : j < pl.length) : at0 pl i < at0 pl j := by
  have := List.pairwise_iff_getElem.1 h.2 i j (by omega) hj hij
  rw [at0_of (List.getElem?_eq_getElem (show i < pl.length by omega)), at0_of (List.getElem?_eq_getElem hj)]
  exact this
theorem PlOK.rng {n : Nat} {pl : List Int} (h : PlOK n pl) {i : Nat} (hi : i < pl.length) : 1 ≤ at0 pl i ∧ at0 pl i ≤ (n : Int) := h.1 _ (at0_mem hi)
theorem nums_ne {p pl : List Int} (hp : isP p = true) (h : PlOK p.length pl) {i j : Nat} (hi : i < pl.length) (hj : j < pl.length) (hne : i ≠ j) : at0 (nums p pl) i ≠ at0 (nums p pl) j := by
  have r1 := h.rng hi
  have r2 := h.rng hj
  have hm : at0 pl i ≠ at0 pl j := by
    rcases Nat.lt_or_ge i j with h1 | h1
    · have := h.mono h1 hj; omega
    · have := h.mono (show j < i by omega) hi; omega
  rw [nums_at0 hi, nums_at0 hj]
  exact isP_ne hp (by omega) (by omega) (by omega)
/-- The last one of some places agrees with a pattern. -/
def fitL (p q pl : List Int) : Bool := (List.range (pl.length - 1)).all fun k => decide (at0 q k < at0 q (pl.length - 1)) == decide (at0 (nums p pl) k < at0 (nums p pl) (pl.length - 1))
theorem fitL_iff {p q pl : List Int} : fitL p q pl = true ↔ ∀ k, k < pl.length - 1 → (at0 q k < at0 q (pl.length - 1) ↔ at0 (nums p pl) k < at0 (nums p pl) (pl.length - 1)) := by
  unfold fitL
  rw [List.all_eq_true]
  simp only [List.mem_range, beq_iff_eq, decide_eq_decide]
theorem fitL_yes {p q pl : List Int} (h : ∀ k, k < pl.length - 1 → decide (at0 q k < at0 q (pl.length - 1)) = decide (at0 (nums p pl) k < at0 (nums p pl) (pl.length - 1))) : fitL p q pl = true := by
  rw [fitL_iff]
  intro k hk
  exact decide_eq_decide.1 (h k hk)
theorem fitL_no {p q pl : List Int} {k : Nat} (hk : k < pl.length - 1) (h : decide (at0 q k < at0 q (pl.length - 1)) ≠ decide (at0 (nums p pl) k < at0 (nums p pl) (pl.length - 1))) : fitL p q pl = false := by
  cases hf : fitL p q pl with
  | false => rfl
  | true => exact absurd (decide_eq_decide.2 (fitL_iff.1 hf k hk)) h
theorem fits_alike {p q pl : List Int} (hp : isP p = true) (hq : isP q = true) (hl : pl.length = q.length) (h : PlOK p.length pl) : (∀ k, k < pl.length → fitL p q (pl.take (k + 1)) = true) ↔ Alike (nums p pl) q := by
  have hlt : ∀ k, k < pl.length → (pl.take (k + 1)).length = k + 1 := fun k hk => by rw [List.length_take]; omega
  have key : ∀ k, k < pl.length → (fitL p q (pl.take (k + 1)) = true ↔ ∀ i, i < k → (at0 q i < at0 q k ↔ at0 (nums p pl) i < at0 (nums p pl) k)) := fun k hk => by
    rw [fitL_iff, hlt k hk, Nat.add_sub_cancel, nums_take]
    have hpl := nums_length p pl
    constructor
    · intro h i hi
      have := h i hi
      rwa [at0_take (by omega) (by omega), at0_take (by omega) (by omega)] at this
    · intro h i hi
      rw [at0_take (by omega) (by omega), at0_take (by omega) (by omega)]
      exact h i hi
  constructor
  · intro hf
    refine ⟨by rw [nums_length]; exact hl, fun i j hi hj => ?_⟩
    rw [nums_length] at hi hj
    rcases Nat.lt_trichotomy i j with h1 | h1 | h1
    · exact ((key j hj).1 (hf j hj) i h1).symm
    · subst h1; exact ⟨fun h => by omega, fun h => by omega⟩
    · have h2 := (key i hi).1 (hf i hi) j h1
      have n1 := nums_ne hp h hi hj (by omega)
      have n2 := isP_ne hq (i := i) (j := j) (by omega) (by omega) (by omega)
      constructor
      · intro h3; by_cases h4 : at0 q j < at0 q i
        · have := h2.1 h4; omega
        · omega
      · intro h3; by_cases h4 : at0 (nums p pl) j < at0 (nums p pl) i
        · have := h2.2 h4; omega
        · omega
  · intro ha k hk
    rw [key k hk]
    intro i hi
    exact (ha.2 i k (by rw [nums_length]; omega) (by rw [nums_length]; omega)).symm

/-- The last place, or none. -/
def lastP (head : List Int) : Nat := (head.getLast?.getD 0).toNat
theorem lastP_nil : lastP [] = 0 := rfl
theorem lastP_snoc (head : List Int) (x : Int) : lastP (head ++ [x]) = x.toNat := by simp [lastP]
theorem lastP_at {head : List Int} (h : 0 < head.length) : lastP head = (at0 head (head.length - 1)).toNat := by
  unfold lastP
  rw [List.getLast?_eq_getElem?, at0_some (by omega)]; rfl
theorem lastP_le {n : Nat} {head : List Int} (h : PlOK n head) : lastP head ≤ n := by
  cases head with
  | nil => rw [lastP_nil]; omega
  | cons a l =>
    rw [lastP_at (by simp)]
    have := h.rng (i := (a :: l).length - 1) (by simp)
    omega
theorem PlOK.snoc {n : Nat} {head : List Int} {x : Int} : PlOK n (head ++ [x]) ↔ PlOK n head ∧ (lastP head : Int) < x ∧ x ≤ (n : Int) := by
  unfold PlOK
  rw [List.pairwise_append]
  constructor
  · rintro ⟨h1, h2, _, h3⟩
    refine ⟨⟨fun y hy => h1 y (by simp [hy]), h2⟩, ?_, (h1 x (by simp)).2⟩
    by_cases h0 : 0 < head.length
    · have h4 := h3 (at0 head (head.length - 1)) (at0_mem (by omega)) x (by simp)
      have h5 := h1 x (by simp)
      rw [lastP_at h0]; omega
    · have : head = [] := List.eq_nil_of_length_eq_zero (by omega)
      subst this
      have h5 := h1 x (by simp)
      rw [lastP_nil]; omega
  · rintro ⟨h1, h2, h3⟩
    refine ⟨fun y hy => ?_, h1.2, by simp, fun a ha b hb => ?_⟩
    · rcases List.mem_append.1 hy with h | h
      · exact h1.1 y h
      · simp at h; subst h; omega
    · simp at hb; subst hb
      have hr := h1.1 a ha
      obtain ⟨i, hi, rfl⟩ := List.getElem_of_mem ha
      have h0 : 0 < head.length := by omega
      have e : at0 head i = head[i] := at0_of (List.getElem?_eq_getElem hi)
      have : at0 head i ≤ at0 head (head.length - 1) := by
        by_cases hh : i = head.length - 1
        · rw [← hh]; exact Int.le_refl _
        · have := PlOK.mono (n := n) h1 (i := i) (j := head.length - 1) (by omega) (by omega); omega
      rw [lastP_at h0] at h2
      have hr2 := PlOK.rng (n := n) h1 (i := head.length - 1) (by omega)
      omega

/-- The occurrences that begin with head and have m places more. -/
def extL (p q : List Int) : Nat → List Int → List (List Int)
  | 0, head => [head]
  | m + 1, head => (List.range (p.length - lastP head)).flatMap fun i => if fitL p q (head ++ [((lastP head + i + 1 : Nat) : Int)]) then extL p q m (head ++ [((lastP head + i + 1 : Nat) : Int)]) else []
/-- .. of the first j of the next places. -/
def extK (p q : List Int) (m : Nat) (head : List Int) (j : Nat) : List (List Int) := (List.range j).flatMap fun i => if fitL p q (head ++ [((lastP head + i + 1 : Nat) : Int)]) then extL p q m (head ++ [((lastP head + i + 1 : Nat) : Int)]) else []
theorem extK_all (p q : List Int) (m : Nat) (head : List Int) : extK p q m head (p.length - lastP head) = extL p q (m + 1) head := rfl
theorem extK_zero (p q : List Int) (m : Nat) (head : List Int) : extK p q m head 0 = [] := rfl
theorem extK_yes {p q : List Int} {m : Nat} {head : List Int} {j : Nat} (h : fitL p q (head ++ [((lastP head + j + 1 : Nat) : Int)]) = true) : extK p q m head (j + 1) = extK p q m head j ++ extL p q m (head ++ [((lastP head + j + 1 : Nat) : Int)]) := by
  unfold extK
  rw [List.range_succ, List.flatMap_append, List.flatMap_cons, List.flatMap_nil, List.append_nil, if_pos h]
theorem extK_no {p q : List Int} {m : Nat} {head : List Int} {j : Nat} (h : fitL p q (head ++ [((lastP head + j + 1 : Nat) : Int)]) = false) : extK p q m head (j + 1) = extK p q m head j := by
  unfold extK
  rw [List.range_succ, List.flatMap_append, List.flatMap_cons, List.flatMap_nil, List.append_nil, if_neg (by rw [h]; exact Bool.false_ne_true), List.append_nil]
theorem mem_extL {p q : List Int} : ∀ (m : Nat) (head pl : List Int), PlOK p.length head → (pl ∈ extL p q m head ↔ ∃ tl, pl = head ++ tl ∧ tl.length = m ∧ PlOK p.length pl ∧ ∀ k, head.length ≤ k → k < pl.length → fitL p q (pl.take (k + 1)) = true)
  | 0, head, pl, h => by
    rw [extL, List.mem_singleton]
    constructor
    · rintro rfl
      exact ⟨[], by simp, rfl, h, fun k h1 h2 => by omega⟩
    · rintro ⟨tl, rfl, h1, _⟩
      rw [List.eq_nil_of_length_eq_zero h1, List.append_nil]
  | m + 1, head, pl, h => by
    have hle := lastP_le h
    rw [extL, List.mem_flatMap]
    constructor
    · rintro ⟨i, hi, hm⟩
      rw [List.mem_range] at hi
      by_cases hf : fitL p q (head ++ [((lastP head + i + 1 : Nat) : Int)]) = true
      · rw [if_pos hf] at hm
        have hh : PlOK p.length (head ++ [((lastP head + i + 1 : Nat) : Int)]) := PlOK.snoc.2 ⟨h, by omega, by omega⟩
        obtain ⟨tl, rfl, h1, h2, h3⟩ := (mem_extL m _ pl hh).1 hm
        refine ⟨((lastP head + i + 1 : Nat) : Int) :: tl, by rw [List.append_assoc]; rfl, by simp [h1], h2, fun k hk1 hk2 => ?_⟩
        by_cases hk : k = head.length
        · subst hk
          rw [List.take_append_of_le_length (by simp), List.take_of_length_le (by simp)]
          exact hf
        · exact h3 k (by simp; omega) hk2
      · rw [if_neg hf] at hm; cases hm
    · rintro ⟨tl, rfl, h1, h2, h3⟩
      match tl, h1 with
      | x :: tl, h1 =>
        have hx : PlOK p.length (head ++ [x]) := by
          have := h2.take (head.length + 1)
          rwa [show head ++ x :: tl = head ++ [x] ++ tl by simp, List.take_append_of_le_length (by simp), List.take_of_length_le (by simp)] at this
        obtain ⟨_, hx1, hx2⟩ := PlOK.snoc.1 hx
        have hxe : ((lastP head + (x.toNat - lastP head - 1) + 1 : Nat) : Int) = x := by omega
        refine ⟨x.toNat - lastP head - 1, List.mem_range.2 (by omega), ?_⟩
        rw [hxe]
        have hf := h3 head.length (Nat.le_refl _) (by simp)
        rw [show head ++ x :: tl = head ++ [x] ++ tl by simp, List.take_append_of_le_length (by simp), List.take_of_length_le (by simp)] at hf
        rw [if_pos hf, mem_extL m _ _ hx]
        exact ⟨tl, by simp, by simpa using h1, h2, fun k hk1 hk2 => h3 k (by simp at hk1; omega) hk2⟩
theorem extL_len {p q : List Int} : ∀ (m : Nat) (head pl : List Int), pl ∈ extL p q m head → pl.length = head.length + m
  | 0, head, pl, h => by rw [extL, List.mem_singleton] at h; subst h; rfl
  | m + 1, head, pl, h => by
    rw [extL, List.mem_flatMap] at h
    obtain ⟨i, _, h⟩ := h
    by_cases hf : fitL p q (head ++ [((lastP head + i + 1 : Nat) : Int)]) = true
    · rw [if_pos hf] at h
      have := extL_len m _ pl h
      simp at this; omega
    · rw [if_neg hf] at h; cases h
theorem extL_pre {p q : List Int} : ∀ (m : Nat) (head pl : List Int), pl ∈ extL p q m head → ∃ tl, pl = head ++ tl
  | 0, head, pl, h => by rw [extL, List.mem_singleton] at h; subst h; exact ⟨[], by simp⟩
  | m + 1, head, pl, h => by
    rw [extL, List.mem_flatMap] at h
    obtain ⟨i, _, h⟩ := h
    by_cases hf : fitL p q (head ++ [((lastP head + i + 1 : Nat) : Int)]) = true
    · rw [if_pos hf] at h
      obtain ⟨tl, rfl⟩ := extL_pre m _ pl h
      exact ⟨_ :: tl, by simp; rfl⟩
    · rw [if_neg hf] at h; cases h
theorem lexL_app (h : List Int) (a b : List Int) : lexL (h ++ a) (h ++ b) = lexL a b := by
  induction h with
  | nil => rfl
  | cons x h ih => rw [List.cons_append, List.cons_append, lexL, if_pos rfl, ih]
theorem extL_asc {p q : List Int} : ∀ (m : Nat) (head : List Int), Asc (extL p q m head)
  | 0, head => by rw [extL]; exact List.pairwise_singleton _ _
  | m + 1, head => by
    rw [extL]
    unfold Asc
    rw [List.pairwise_flatMap]
    constructor
    · intro i _
      split
      · exact extL_asc m _
      · exact List.Pairwise.nil
    · refine List.Pairwise.imp ?_ List.pairwise_lt_range
      intro i j hij x hx y hy
      split at hx
      · split at hy
        · have l1 := extL_len m _ x hx
          have l2 := extL_len m _ y hy
          obtain ⟨t, rfl⟩ := extL_pre m _ x hx
          obtain ⟨s, rfl⟩ := extL_pre m _ y hy
          simp only [List.length_append, List.length_singleton] at l1 l2
          rw [befL_eq (by simp; omega), List.append_assoc, List.append_assoc, lexL_app, List.singleton_append, List.singleton_append, lexL, if_neg (by omega)]
          simp; omega
        · cases hy
      · cases hx
/-- The occurrences of q in p. -/
def occR (p q : List Int) : List (List Int) := if isP p && isP q then extL p q q.length [] else []
theorem occR_yes {p q : List Int} (hp : isP p = true) (hq : isP q = true) : occR p q = extL p q q.length [] := by unfold occR; rw [if_pos (by simp [hp, hq])]
theorem occR_no {p q : List Int} (h : isP p = false ∨ isP q = false) : occR p q = [] := by
  unfold occR
  rw [if_neg (by rcases h with h | h <;> simp [h])]
def isOcc (p q pl : List Int) : Bool := isP p && (isP q && (decide (pl.length = q.length) && (decide (PlOK p.length pl) && decide (patL (nums p pl) = q))))
theorem isOcc_iff {p q pl : List Int} : isOcc p q pl = true ↔ isP p = true ∧ isP q = true ∧ pl.length = q.length ∧ PlOK p.length pl ∧ patL (nums p pl) = q := by
  unfold isOcc
  simp only [Bool.and_eq_true, decide_eq_true_eq]
theorem mem_occ {p q pl : List Int} : pl ∈ occR p q ↔ isOcc p q pl = true := by
  rw [isOcc_iff]
  cases hp : isP p with
  | false => rw [occR_no (.inl hp)]; simp
  | true =>
    cases hq : isP q with
    | false => rw [occR_no (.inr hq)]; simp
    | true =>
      rw [occR_yes hp hq, mem_extL q.length [] pl (PlOK.nil _)]
      constructor
      · rintro ⟨tl, rfl, h1, h2, h3⟩
        exact ⟨rfl, rfl, h1, h2, (pat_eq_iff hq).2 ((fits_alike hp hq h1 h2).1 fun k hk => h3 k (Nat.zero_le _) hk)⟩
      · rintro ⟨_, _, h1, h2, h3⟩
        exact ⟨pl, by simp, h1, h2, fun k _ hk => (fits_alike hp hq h1 h2).2 ((pat_eq_iff hq).1 h3) k hk⟩
theorem occ_asc (p q : List Int) : Asc (occR p q) := by
  unfold occR
  split
  · exact extL_asc _ _
  · exact List.Pairwise.nil
end Go.Proofs.YtabfjmabiapgoaaDoor


/-
  PLAIN: the eight symmetries are a group of eight; classes are the same for their elements; their sizes divide eight.
-/

namespace Go.Proofs.YtabfjmabiapgoaaDoor
set_option maxRecDepth 100000

def invL (p : List Int) : List Int := invFill p p.length
theorem invL_length (p : List Int) : (invL p).length = p.length := invFill_length p _
theorem invL_isP {p : List Int} (h : isP p = true) : isP (invL p) = true := isP_inv h
theorem invL_at {p : List Int} (h : isP p = true) {i : Nat} {z : Int} (hi : i < p.length) (hz : p[i]? = some z) : (invL p)[z.toNat - 1]? = some ((i : Int) + 1) :=
  invFill_at (isP_true.1 h).2.1 (isP_true.1 h).2.2 p.length i z hi (Nat.le_refl _) hz
/-- What is at a place of the inverse. -/
theorem invL_get {p : List Int} (h : isP p = true) {j : Nat} (hj : j < p.length) : ∃ i, i < p.length ∧ p[i]? = some ((j : Int) + 1) ∧ (invL p)[j]? = some ((i : Int) + 1) := by
  have hin := (nodup_iff_all (isP_true.1 h).2.1).1 (isP_true.1 h).2.2 j hj
  obtain ⟨i, hi, he⟩ := List.getElem_of_mem hin
  have h1 : p[i]? = some ((j : Int) + 1) := by rw [List.getElem?_eq_getElem hi, he]
  refine ⟨i, hi, h1, ?_⟩
  have := invL_at h hi h1
  rwa [show ((j : Int) + 1).toNat - 1 = j by omega] at this
/-- A list is the inverse if it has the inverse's places. -/
theorem invL_of {p q : List Int} (h : isP p = true) (hl : q.length = p.length) (hq : ∀ (i : Nat) (z : Int), p[i]? = some z → q[z.toNat - 1]? = some ((i : Int) + 1)) : invL p = q := by
  refine List.ext_getElem? fun j => ?_
  by_cases hj : j < p.length
  · obtain ⟨i, hi, h1, h2⟩ := invL_get h hj
    have := hq i _ h1
    rw [show ((j : Int) + 1).toNat - 1 = j by omega] at this
    rw [h2, this]
  · rw [List.getElem?_eq_none (by rw [invL_length]; omega), List.getElem?_eq_none (by omega)]
theorem inv_inv {p : List Int} (h : isP p = true) : invL (invL p) = p := by
  refine invL_of (invL_isP h) (invL_length p).symm fun j z hz => ?_
  have hj : j < p.length := by have := (List.getElem?_eq_some_iff.1 hz).1; rwa [invL_length] at this
  obtain ⟨i, hi, h1, h2⟩ := invL_get h hj
  rw [h2] at hz
  obtain rfl := Option.some.inj hz
  rw [show ((i : Int) + 1).toNat - 1 = i by omega, h1]
theorem inv_rev {p : List Int} (h : isP p = true) : invL p.reverse = cplL (invL p) := by
  refine invL_of (isP_rev h) (by rw [cplL_length, invL_length, List.length_reverse]) fun i z hz => ?_
  have hi : i < p.length := by have := (List.getElem?_eq_some_iff.1 hz).1; rwa [List.length_reverse] at this
  rw [List.getElem?_reverse hi] at hz
  have h1 := invL_at h (by omega) hz
  rw [cplL_at h1, invL_length]
  congr 1
  omega
theorem inv_cpl {p : List Int} (h : isP p = true) : invL (cplL p) = (invL p).reverse := by
  refine invL_of (isP_cpl h) (by rw [cplL_length, List.length_reverse, invL_length]) fun i z hz => ?_
  have hi : i < p.length := by have := (List.getElem?_eq_some_iff.1 hz).1; rwa [cplL_length] at this
  have hp := at0_some hi
  rw [cplL_at hp] at hz
  obtain rfl := Option.some.inj hz
  have hr := isP_range h hp
  have h1 := invL_at h hi hp
  rw [List.getElem?_reverse (by rw [invL_length]; omega), invL_length]
  rw [show p.length - 1 - (((p.length : Int) + 1 - at0 p i).toNat - 1) = (at0 p i).toNat - 1 by omega]
  exact h1
theorem cpl_rev (p : List Int) : cplL p.reverse = (cplL p).reverse := by
  unfold cplL
  rw [List.length_reverse, List.map_reverse]

/-- The steps on the numbers of the symmetries. -/
def sI (k : Nat) : Nat := (if 4 ≤ k then 2 else 0) + (if k / 2 % 2 = 1 then 4 else 0) + (if k % 2 = 1 then 0 else 1)
def sR (k : Nat) : Nat := if k / 2 % 2 = 1 then k - 2 else k + 2
def sC (k : Nat) : Nat := if 4 ≤ k then k - 4 else k + 4
def mulS (k j : Nat) : Nat :=
  let a := if j % 2 = 1 then sI k else k
  let b := if j / 2 % 2 = 1 then sR a else a
  if 4 ≤ j then sC b else b
theorem mulS_lt : ∀ k, k < 8 → ∀ j, j < 8 → mulS k j < 8 := by decide
theorem sym_list (p : List Int) : symL p 0 = p ∧ symL p 1 = invL p ∧ symL p 2 = p.reverse ∧ symL p 3 = (invL p).reverse ∧ symL p 4 = cplL p ∧ symL p 5 = cplL (invL p) ∧ symL p 6 = cplL p.reverse ∧ symL p 7 = cplL (invL p).reverse := by
  refine ⟨?_, ?_, ?_, ?_, ?_, ?_, ?_, ?_⟩ <;> simp [symL, sym2, sym1, invL]
theorem inv_sym {p : List Int} (h : isP p = true) : ∀ k, k < 8 → invL (symL p k) = symL p (sI k) := by
  obtain ⟨e0, e1, e2, e3, e4, e5, e6, e7⟩ := sym_list p
  have hi := invL_isP h
  intro k hk
  rcases (show k = 0 ∨ k = 1 ∨ k = 2 ∨ k = 3 ∨ k = 4 ∨ k = 5 ∨ k = 6 ∨ k = 7 by omega) with rfl | rfl | rfl | rfl | rfl | rfl | rfl | rfl
  · rw [e0, show sI 0 = 1 from rfl, e1]
  · rw [e1, show sI 1 = 0 from rfl, e0, inv_inv h]
  · rw [e2, show sI 2 = 5 from rfl, e5, inv_rev h]
  · rw [e3, show sI 3 = 4 from rfl, e4, inv_rev hi, inv_inv h]
  · rw [e4, show sI 4 = 3 from rfl, e3, inv_cpl h]
  · rw [e5, show sI 5 = 2 from rfl, e2, inv_cpl hi, inv_inv h]
  · rw [e6, show sI 6 = 7 from rfl, e7, inv_cpl (isP_rev h), inv_rev h, cpl_rev]
  · rw [e7, show sI 7 = 6 from rfl, e6, inv_cpl (isP_rev hi), inv_rev hi, inv_inv h, cpl_rev]
theorem rev_sym (p : List Int) : ∀ k, k < 8 → (symL p k).reverse = symL p (sR k) := by
  obtain ⟨e0, e1, e2, e3, e4, e5, e6, e7⟩ := sym_list p
  intro k hk
  rcases (show k = 0 ∨ k = 1 ∨ k = 2 ∨ k = 3 ∨ k = 4 ∨ k = 5 ∨ k = 6 ∨ k = 7 by omega) with rfl | rfl | rfl | rfl | rfl | rfl | rfl | rfl
  · rw [e0, show sR 0 = 2 from rfl, e2]
  · rw [e1, show sR 1 = 3 from rfl, e3]
  · rw [e2, show sR 2 = 0 from rfl, e0, List.reverse_reverse]
  · rw [e3, show sR 3 = 1 from rfl, e1, List.reverse_reverse]
  · rw [e4, show sR 4 = 6 from rfl, e6, cpl_rev]
  · rw [e5, show sR 5 = 7 from rfl, e7, cpl_rev]
  · rw [e6, show sR 6 = 4 from rfl, e4, cpl_rev, List.reverse_reverse]
  · rw [e7, show sR 7 = 5 from rfl, e5, cpl_rev, List.reverse_reverse]
theorem cpl_sym (p : List Int) : ∀ k, k < 8 → cplL (symL p k) = symL p (sC k) := by
  obtain ⟨e0, e1, e2, e3, e4, e5, e6, e7⟩ := sym_list p
  intro k hk
  rcases (show k = 0 ∨ k = 1 ∨ k = 2 ∨ k = 3 ∨ k = 4 ∨ k = 5 ∨ k = 6 ∨ k = 7 by omega) with rfl | rfl | rfl | rfl | rfl | rfl | rfl | rfl
  · rw [e0, show sC 0 = 4 from rfl, e4]
  · rw [e1, show sC 1 = 5 from rfl, e5]
  · rw [e2, show sC 2 = 6 from rfl, e6]
  · rw [e3, show sC 3 = 7 from rfl, e7]
  · rw [e4, show sC 4 = 0 from rfl, e0, cpl_cpl]
  · rw [e5, show sC 5 = 1 from rfl, e1, cpl_cpl]
  · rw [e6, show sC 6 = 2 from rfl, e2, cpl_cpl]
  · rw [e7, show sC 7 = 3 from rfl, e3, cpl_cpl]
theorem sI_lt : ∀ k, k < 8 → sI k < 8 := by decide
theorem sR_lt : ∀ k, k < 8 → sR k < 8 := by decide
/-- A symmetry of a symmetry. -/
theorem sym_sym {p : List Int} (h : isP p = true) {k j : Nat} (hk : k < 8) (_hj : j < 8) : symL (symL p k) j = symL p (mulS k j) := by
  have e1 : sym1 (symL p k) j = symL p (if j % 2 = 1 then sI k else k) := by
    unfold sym1
    split
    · exact inv_sym h k hk
    · rfl
  have l1 : (if j % 2 = 1 then sI k else k) < 8 := by
    split
    · exact sI_lt k hk
    · exact hk
  have e2 : sym2 (symL p k) j = symL p (if j / 2 % 2 = 1 then sR (if j % 2 = 1 then sI k else k) else (if j % 2 = 1 then sI k else k)) := by
    unfold sym2
    rw [e1]
    by_cases hb : j / 2 % 2 = 1
    · rw [if_pos hb, if_pos hb]; exact rev_sym p _ l1
    · rw [if_neg hb, if_neg hb]
  have l2 : (if j / 2 % 2 = 1 then sR (if j % 2 = 1 then sI k else k) else (if j % 2 = 1 then sI k else k)) < 8 := by
    by_cases hb : j / 2 % 2 = 1
    · rw [if_pos hb]; exact sR_lt _ l1
    · rw [if_neg hb]; exact l1
  have e3 : symL (symL p k) j = if 4 ≤ j then cplL (sym2 (symL p k) j) else sym2 (symL p k) j := rfl
  rw [e3, e2]
  by_cases hb : 4 ≤ j
  · rw [if_pos hb, cpl_sym p _ l2]
    congr 1
    simp only [mulS]
    rw [if_pos hb]
  · rw [if_neg hb]
    congr 1
    simp only [mulS]
    rw [if_neg hb]
theorem mulS_onto : ∀ k, k < 8 → ∀ i, i < 8 → ∃ j, j < 8 ∧ mulS k j = i := by decide
theorem mem_imgs {p x : List Int} : x ∈ imgs p 8 ↔ ∃ j, j < 8 ∧ symL p j = x := by
  unfold imgs
  simp [List.mem_map, List.mem_range]
theorem mem_cls {p x : List Int} (h : isP p = true) : x ∈ clsR p ↔ ∃ j, j < 8 ∧ symL p j = x := by
  rw [clsR_yes h, ordR_yes (imgs_all h 8), ordL_mem, List.take_length, mem_imgs]
theorem asc_cls {p : List Int} (h : isP p = true) : Asc (clsR p) := by
  rw [clsR_yes h, ordR_yes (imgs_all h 8)]
  exact ordL_asc _ _
theorem cls_sym {p : List Int} (h : isP p = true) {k : Nat} (hk : k < 8) : clsR (symL p k) = clsR p := by
  refine asc_unique (asc_cls (symL_isP h k)) (asc_cls h) fun x => ?_
  rw [mem_cls (symL_isP h k), mem_cls h]
  constructor
  · rintro ⟨j, hj, rfl⟩
    exact ⟨mulS k j, mulS_lt k hk j hj, (sym_sym h hk hj).symm⟩
  · rintro ⟨i, hi, rfl⟩
    obtain ⟨j, hj, e⟩ := mulS_onto k hk i hi
    exact ⟨j, hj, by rw [sym_sym h hk hj, e]⟩
/-- The number of the inverse symmetry. -/
def invS (k : Nat) : Nat := if k = 3 then 5 else if k = 5 then 3 else k
theorem mulS_inv : ∀ k, k < 8 → mulS k (invS k) = 0 := by decide
theorem invS_lt : ∀ k, k < 8 → invS k < 8 := by decide
theorem mulS_back : ∀ k, k < 8 → ∀ j, j < 8 → mulS (mulS j (invS k)) k = j := by decide
theorem mulS_zero : ∀ k, k < 8 → mulS 0 k = k := by decide
/-- Two images are the same exactly if one symmetry leaves the permutation as it is. -/
theorem sym_eq {p : List Int} (h : isP p = true) {i j : Nat} (hi : i < 8) (hj : j < 8) : symL p i = symL p j ↔ symL p (mulS j (invS i)) = p := by
  have hii := invS_lt i hi
  constructor
  · intro e
    rw [← sym_sym h hj hii, ← e, sym_sym h hi hii, mulS_inv i hi]
    exact (sym_list p).1
  · intro e
    have h2 := mulS_lt j hj _ hii
    have h3 := sym_sym h h2 hi
    rw [e, mulS_back i hi j hj] at h3
    exact h3
/-- The numbers of the first images. -/
def firsts (e : Nat → Bool) : List Nat := (List.range 8).filter fun j => (List.range j).all fun i => !e (mulS j (invS i))
def tab (b0 b1 b2 b3 b4 b5 b6 b7 : Bool) (k : Nat) : Bool := [b0, b1, b2, b3, b4, b5, b6, b7].getD k false
theorem div8 : ∀ b1 b2 b3 b4 b5 b6 b7 : Bool, (∀ i, i < 8 → ∀ j, j < 8 → tab true b1 b2 b3 b4 b5 b6 b7 i = true → tab true b1 b2 b3 b4 b5 b6 b7 j = true → tab true b1 b2 b3 b4 b5 b6 b7 (mulS i j) = true) →
    8 % (firsts (tab true b1 b2 b3 b4 b5 b6 b7)).length = 0 := by decide +kernel
theorem cls_div {p : List Int} (h : isP p = true) : 0 < (clsR p).length ∧ 8 % (clsR p).length = 0 := by
  refine ⟨List.length_pos_iff.2 (clsR_ne h), ?_⟩
  obtain ⟨e, he⟩ : ∃ e : Nat → Bool, e = fun k => decide (symL p k = p) := ⟨_, rfl⟩
  have hE : ∀ k, e k = true ↔ symL p k = p := fun k => by rw [he]; simp
  -- the first images are the class
  have hperm : (clsR p).Perm ((firsts e).map fun j => symL p j) := by
    have hn1 : (clsR p).Nodup := by
      rw [List.nodup_iff_pairwise_ne]
      exact (asc_cls h).imp fun hab e => by subst e; rw [befL_irrefl] at hab; cases hab
    have hn2 : ((firsts e).map fun j => symL p j).Nodup := by
      rw [List.nodup_iff_pairwise_ne, List.pairwise_map]
      unfold firsts
      have hlt : ((List.range 8).filter fun j => (List.range j).all fun i => !e (mulS j (invS i))).Pairwise (· < ·) := List.pairwise_lt_range.sublist List.filter_sublist
      refine hlt.imp_of_mem fun {i j} hi hj hij heq => ?_
      have hi8 := List.mem_range.1 (List.mem_filter.1 hi).1
      have hj8 := List.mem_range.1 (List.mem_filter.1 hj).1
      have hall := (List.mem_filter.1 hj).2
      rw [List.all_eq_true] at hall
      have h2 := hall i (List.mem_range.2 hij)
      have h3 := (hE _).2 ((sym_eq h hi8 hj8).1 heq)
      rw [h3] at h2
      cases h2
    refine (List.perm_ext_iff_of_nodup hn1 hn2).2 fun x => ?_
    rw [mem_cls h, List.mem_map]
    constructor
    · rintro ⟨j, hj, rfl⟩
      -- the least number with this image
      have hleast : ∀ n, ∀ j, j ≤ n → j < 8 → ∃ i, i ∈ firsts e ∧ symL p i = symL p j := fun n => by
        induction n with
        | zero =>
          intro j hj _
          obtain rfl : j = 0 := by omega
          exact ⟨0, by simp [firsts, List.mem_filter], rfl⟩
        | succ n ih =>
          intro j hj hj8
          by_cases hf : j ∈ firsts e
          · exact ⟨j, hf, rfl⟩
          · have : ∃ i, i < j ∧ e (mulS j (invS i)) = true := by
              refine Classical.byContradiction fun hc => hf ?_
              refine List.mem_filter.2 ⟨List.mem_range.2 hj8, ?_⟩
              rw [List.all_eq_true]
              intro i hi
              cases hb : e (mulS j (invS i)) with
              | false => rfl
              | true => exact absurd ⟨i, List.mem_range.1 hi, hb⟩ hc
            obtain ⟨i, hij, hb⟩ := this
            obtain ⟨i', h1, h2⟩ := ih i (by omega) (by omega)
            exact ⟨i', h1, h2.trans ((sym_eq h (by omega) hj8).2 ((hE _).1 hb))⟩
      obtain ⟨i, h1, h2⟩ := hleast j j (Nat.le_refl _) hj
      exact ⟨i, h1, h2⟩
    · rintro ⟨i, hi, rfl⟩
      exact ⟨i, List.mem_range.1 (List.mem_filter.1 hi).1, rfl⟩
  rw [hperm.length_eq, List.length_map]
  -- the numbers that leave p as it is are closed
  have hclosed : ∀ i, i < 8 → ∀ j, j < 8 → e i = true → e j = true → e (mulS i j) = true := fun i hi j hj h1 h2 => by
    rw [hE] at h1 h2 ⊢
    rw [← sym_sym h hi hj, h1, h2]
  have htab : ∀ k, k < 8 → tab true (e 1) (e 2) (e 3) (e 4) (e 5) (e 6) (e 7) k = e k := fun k hk => by
    have e0 : e 0 = true := (hE 0).2 (sym_list p).1
    rcases (show k = 0 ∨ k = 1 ∨ k = 2 ∨ k = 3 ∨ k = 4 ∨ k = 5 ∨ k = 6 ∨ k = 7 by omega) with rfl | rfl | rfl | rfl | rfl | rfl | rfl | rfl
    · exact e0.symm
    all_goals rfl
  have hfe : firsts e = firsts (tab true (e 1) (e 2) (e 3) (e 4) (e 5) (e 6) (e 7)) := by
    unfold firsts
    refine List.filter_congr fun j hj => ?_
    have hj8 := List.mem_range.1 hj
    rw [Bool.eq_iff_iff, List.all_eq_true, List.all_eq_true]
    refine forall_congr' fun i => ?_
    constructor
    · intro h1 hi
      rw [htab _ (mulS_lt j hj8 _ (invS_lt i (by have := List.mem_range.1 hi; omega)))]
      exact h1 hi
    · intro h1 hi
      rw [← htab _ (mulS_lt j hj8 _ (invS_lt i (by have := List.mem_range.1 hi; omega)))]
      exact h1 hi
  rw [hfe]
  refine div8 _ _ _ _ _ _ _ fun i hi j hj h1 h2 => ?_
  rw [htab i hi] at h1
  rw [htab j hj] at h2
  rw [htab _ (mulS_lt i hi j hj)]
  exact hclosed i hi j hj h1 h2
end Go.Proofs.YtabfjmabiapgoaaDoor


/-
  PLAIN: the places of a part; occurrences in the reverse and in the inverse are as many.
-/

namespace Go.Proofs.YtabfjmabiapgoaaDoor
set_option maxRecDepth 100000

/-! lists of lists without repetition -/
theorem asc_nodup {l : List (List Int)} (h : Asc l) : l.Nodup := by
  rw [List.nodup_iff_pairwise_ne]
  exact h.imp fun {a b} h e => by rw [e, befL_irrefl] at h; exact absurd h Bool.false_ne_true
theorem subL_erase {a : List Int} {l m : List (List Int)} (hnd : (a :: l).Nodup) (h : ∀ x ∈ a :: l, x ∈ m) : ∀ x ∈ l, x ∈ m.erase a := fun x hx => by
  have hne : x ≠ a := fun e => by subst e; exact (List.nodup_cons.1 hnd).1 hx
  exact (List.mem_erase_of_ne hne).2 (h x (by simp [hx]))
theorem pigeonL_le : ∀ {l m : List (List Int)}, l.Nodup → (∀ x ∈ l, x ∈ m) → l.length ≤ m.length
  | [], _, _, _ => Nat.zero_le _
  | a :: l, m, hnd, h => by
    have ha := h a (by simp)
    have h1 := pigeonL_le (List.nodup_cons.1 hnd).2 (subL_erase hnd h)
    have h2 := List.length_pos_of_mem ha
    rw [List.length_erase_of_mem ha] at h1
    rw [List.length_cons]; omega
/-- A list that is told apart into another one is not longer. -/
theorem inject_le {l m : List (List Int)} (f : List Int → List Int) (hl : l.Nodup) (h : ∀ x ∈ l, f x ∈ m) (hf : ∀ x ∈ l, ∀ y ∈ l, f x = f y → x = y) : l.length ≤ m.length := by
  have hn : (l.map f).Nodup := by
    rw [List.nodup_iff_pairwise_ne, List.pairwise_map]
    refine List.Pairwise.imp_of_mem (fun {a b} ha hb hne e => hne (hf a ha b hb e)) (List.nodup_iff_pairwise_ne.1 hl)
  have := pigeonL_le hn (m := m) fun x hx => by
    obtain ⟨y, hy, rfl⟩ := List.mem_map.1 hx
    exact h y hy
  rwa [List.length_map] at this

/-! the reverse -/
theorem cnt_rev (l : List Int) (v : Int) : cnt l.reverse v = cnt l v := by unfold cnt; rw [List.filter_reverse, List.length_reverse]
theorem patL_rev (l : List Int) : patL l.reverse = (patL l).reverse := by
  unfold patL
  rw [List.map_reverse]
  congr 1
  exact List.map_congr_left fun x _ => by rw [cnt_rev]
def plRev (n : Nat) (pl : List Int) : List Int := (pl.map fun x => (n : Int) + 1 - x).reverse
theorem plRev_ok {n : Nat} {pl : List Int} (h : PlOK n pl) : PlOK n (plRev n pl) := by
  refine ⟨fun x hx => ?_, ?_⟩
  · unfold plRev at hx
    rw [List.mem_reverse, List.mem_map] at hx
    obtain ⟨y, hy, rfl⟩ := hx
    have := h.1 y hy; omega
  · unfold plRev
    rw [List.pairwise_reverse, List.pairwise_map]
    exact h.2.imp fun h => by omega
theorem plRev_back (n : Nat) (pl : List Int) : plRev n (plRev n pl) = pl := by
  unfold plRev
  rw [List.map_reverse, List.reverse_reverse, List.map_map]
  rw [show ((fun x => (n : Int) + 1 - x) ∘ fun x => (n : Int) + 1 - x) = id by funext x; simp only [Function.comp, id]; omega]
  exact List.map_id pl
theorem at0_rev {l : List Int} {i : Nat} (h : i < l.length) : at0 l.reverse i = at0 l (l.length - 1 - i) := at0_of (by rw [List.getElem?_reverse h]; exact at0_some (by omega))
theorem nums_rev {p pl : List Int} (h : PlOK p.length pl) : nums p.reverse (plRev p.length pl) = (nums p pl).reverse := by
  unfold nums plRev
  rw [List.map_reverse, List.map_map]
  congr 1
  refine List.map_congr_left fun x hx => ?_
  have := h.1 x hx
  simp only [Function.comp]
  rw [at0_rev (by omega)]
  congr 1; omega
theorem occ_rev {p q pl : List Int} (h : pl ∈ occR p q) : plRev p.length pl ∈ occR p.reverse q.reverse := by
  rw [mem_occ, isOcc_iff] at h ⊢
  obtain ⟨h1, h2, h3, h4, h5⟩ := h
  refine ⟨isP_rev h1, isP_rev h2, by rw [plRev, List.length_reverse, List.length_map, List.length_reverse, h3], by rw [List.length_reverse]; exact plRev_ok h4, ?_⟩
  rw [nums_rev h4, patL_rev, h5]
theorem occ_rev_le (p q : List Int) : (occR p q).length ≤ (occR p.reverse q.reverse).length :=
  inject_le (plRev p.length) (asc_nodup (occ_asc p q)) (fun _ h => occ_rev h) fun x _ y _ e => by rw [← plRev_back p.length x, e, plRev_back]
theorem occ_rev_len (p q : List Int) : (occR p.reverse q.reverse).length = (occR p q).length := by
  have h1 := occ_rev_le p q
  have h2 := occ_rev_le p.reverse q.reverse
  rw [List.reverse_reverse, List.reverse_reverse] at h2
  omega

/-! the inverse -/
/-- The places in the inverse: the numbers at the places, in ascending order. -/
def plInv (p q pl : List Int) : List Int := (List.range q.length).map fun j => at0 (nums p pl) ((at0 (invL q) j).toNat - 1)
theorem plInv_length (p q pl : List Int) : (plInv p q pl).length = q.length := by simp [plInv]
theorem plInv_at {p q pl : List Int} {j : Nat} (h : j < q.length) : at0 (plInv p q pl) j = at0 (nums p pl) ((at0 (invL q) j).toNat - 1) := at0_of (by unfold plInv; rw [List.getElem?_map, List.getElem?_range h]; rfl)
/-- A place of the inverse: where the number stands. -/
theorem inv_at {q : List Int} (hq : isP q = true) {j : Nat} (hj : j < q.length) : ∃ i, i < q.length ∧ at0 q i = (j : Int) + 1 ∧ at0 (invL q) j = (i : Int) + 1 := by
  obtain ⟨i, hi, h1, h2⟩ := invL_get hq hj
  exact ⟨i, hi, at0_of h1, at0_of h2⟩
theorem inv_val {p : List Int} (hp : isP p = true) {i : Nat} (hi : i < p.length) : at0 (invL p) ((at0 p i).toNat - 1) = (i : Int) + 1 := at0_of (invL_at hp hi (at0_some hi))
theorem rng_at {p : List Int} (hp : isP p = true) {i : Nat} (hi : i < p.length) : 1 ≤ at0 p i ∧ at0 p i ≤ (p.length : Int) := isP_range hp (at0_some hi)
theorem plOK_of {n : Nat} {l : List Int} (h1 : ∀ i, i < l.length → 1 ≤ at0 l i ∧ at0 l i ≤ (n : Int)) (h2 : ∀ i j, i < j → j < l.length → at0 l i < at0 l j) : PlOK n l := by
  refine ⟨fun x hx => ?_, List.pairwise_iff_getElem.2 fun i j hi hj hij => ?_⟩
  · obtain ⟨i, hi, rfl⟩ := List.getElem_of_mem hx
    have := h1 i hi
    rwa [at0_of (List.getElem?_eq_getElem hi)] at this
  · have := h2 i j hij hj
    rwa [at0_of (List.getElem?_eq_getElem hi), at0_of (List.getElem?_eq_getElem hj)] at this
theorem occ_inv {p q pl : List Int} (h : pl ∈ occR p q) : plInv p q pl ∈ occR (invL p) (invL q) ∧ ∀ i, i < pl.length → at0 (nums (invL p) (plInv p q pl)) ((at0 q i).toNat - 1) = at0 pl i := by
  rw [mem_occ, isOcc_iff] at h
  obtain ⟨h1, h2, h3, h4, h5⟩ := h
  have ha := (pat_eq_iff h2).1 h5
  have hnl := nums_length p pl
  have hv : ∀ i, i < pl.length → 1 ≤ at0 (nums p pl) i ∧ at0 (nums p pl) i ≤ (p.length : Int) := fun i hi => by
    have := h4.rng hi
    rw [nums_at0 hi]
    exact rng_at h1 (by omega)
  have hok : PlOK (invL p).length (plInv p q pl) := by
    rw [invL_length]
    refine plOK_of (fun i hi => ?_) fun i j hij hj => ?_
    · rw [plInv_length] at hi
      rw [plInv_at hi]
      obtain ⟨k, hk, _, e⟩ := inv_at h2 hi
      rw [e]
      have := hv k (by omega)
      rwa [show ((k : Int) + 1).toNat - 1 = k by omega]
    · rw [plInv_length] at hj
      rw [plInv_at (show i < q.length by omega), plInv_at hj]
      obtain ⟨k, hk, e1, e⟩ := inv_at h2 (show i < q.length by omega)
      obtain ⟨k', hk', e1', e'⟩ := inv_at h2 hj
      rw [e, e', show ((k : Int) + 1).toNat - 1 = k by omega, show ((k' : Int) + 1).toNat - 1 = k' by omega]
      rw [ha.2 k k' (by omega) (by omega), e1, e1']
      omega
  have hback : ∀ j, j < q.length → at0 (nums (invL p) (plInv p q pl)) j = at0 pl ((at0 (invL q) j).toNat - 1) := fun j hj => by
    rw [nums_at0 (by rw [plInv_length]; exact hj), plInv_at hj]
    obtain ⟨k, hk, _, e⟩ := inv_at h2 hj
    rw [e, show ((k : Int) + 1).toNat - 1 = k by omega, nums_at0 (by omega)]
    have := h4.rng (i := k) (by omega)
    rw [inv_val h1 (by omega)]
    omega
  refine ⟨?_, fun i hi => ?_⟩
  · rw [mem_occ, isOcc_iff]
    refine ⟨invL_isP h1, invL_isP h2, by rw [plInv_length, invL_length], hok, ?_⟩
    rw [pat_eq_iff (invL_isP h2)]
    refine ⟨by rw [nums_length, plInv_length, invL_length], fun i j hi hj => ?_⟩
    rw [nums_length, plInv_length] at hi hj
    rw [hback i hi, hback j hj]
    obtain ⟨k, hk, _, e⟩ := inv_at h2 hi
    obtain ⟨k', hk', _, e'⟩ := inv_at h2 hj
    rw [e, e', show ((k : Int) + 1).toNat - 1 = k by omega, show ((k' : Int) + 1).toNat - 1 = k' by omega]
    rcases Nat.lt_trichotomy k k' with hh | hh | hh
    · have := h4.mono hh (by omega); omega
    · subst hh; omega
    · have := h4.mono hh (by omega); omega
  · have hr := rng_at h2 (show i < q.length by omega)
    rw [hback _ (by omega), inv_val h2 (by omega), show ((i : Int) + 1).toNat - 1 = i by omega]
theorem occ_inv_le (p q : List Int) : (occR p q).length ≤ (occR (invL p) (invL q)).length :=
  inject_le (plInv p q) (asc_nodup (occ_asc p q)) (fun _ h => (occ_inv h).1) fun x hx y hy e => by
    have h1 := (isOcc_iff.1 (mem_occ.1 hx)).2.2.1
    have h2 := (isOcc_iff.1 (mem_occ.1 hy)).2.2.1
    refine ext_at0 (by omega) fun i hi => ?_
    rw [← (occ_inv hx).2 i hi, e, (occ_inv hy).2 i (by omega)]
theorem occ_inv_len {p q : List Int} (hp : isP p = true) (hq : isP q = true) : (occR (invL p) (invL q)).length = (occR p q).length := by
  have h1 := occ_inv_le p q
  have h2 := occ_inv_le (invL p) (invL q)
  rw [inv_inv hp, inv_inv hq] at h2
  omega

/-! a part of a permutation -/
theorem nums_up (a : Int) (l pl : List Int) (h : ∀ x ∈ pl, 1 ≤ x) : nums (a :: l) (pl.map fun x => x + 1) = nums l pl := by
  unfold nums
  rw [List.map_map]
  refine List.map_congr_left fun x hx => ?_
  have := h x hx
  simp only [Function.comp]
  rw [show (x + 1).toNat - 1 = x.toNat - 1 + 1 by omega, at0_succ]
theorem plOK_up {n : Nat} {pl : List Int} (h : PlOK n pl) : PlOK (n + 1) (pl.map fun x => x + 1) := by
  refine ⟨fun x hx => ?_, ?_⟩
  · obtain ⟨y, hy, rfl⟩ := List.mem_map.1 hx
    have := h.1 y hy; omega
  · rw [List.pairwise_map]
    exact h.2.imp fun h => by omega
theorem places_of {s l : List Int} (h : s.Sublist l) : ∃ pl, PlOK l.length pl ∧ nums l pl = s := by
  induction h with
  | slnil => exact ⟨[], PlOK.nil _, rfl⟩
  | cons a _ ih =>
    obtain ⟨pl, h1, h2⟩ := ih
    exact ⟨_, by rw [List.length_cons]; exact plOK_up h1, by rw [nums_up a _ pl fun x hx => (h1.1 x hx).1, h2]⟩
  | cons_cons a _ ih =>
    obtain ⟨pl, h1, h2⟩ := ih
    refine ⟨1 :: pl.map fun x => x + 1, ?_, ?_⟩
    · rw [List.length_cons]
      have h3 := plOK_up h1
      refine ⟨fun x hx => ?_, List.pairwise_cons.2 ⟨fun x hx => ?_, h3.2⟩⟩
      · rcases List.mem_cons.1 hx with rfl | hx
        · omega
        · exact h3.1 x hx
      · obtain ⟨y, hy, rfl⟩ := List.mem_map.1 hx
        have := h1.1 y hy; omega
    · have h3 := (nums_up a _ pl fun x hx => (h1.1 x hx).1).trans h2
      unfold nums at h3 ⊢
      rw [List.map_cons, h3]; rfl
theorem occ_sub {p s : List Int} (hp : isP p = true) (h : s.Sublist p) (hs : isP (patL s) = true) : 0 < (occR p (patL s)).length := by
  obtain ⟨pl, h1, h2⟩ := places_of h
  refine List.length_pos_of_mem (a := pl) ?_
  rw [mem_occ, isOcc_iff]
  exact ⟨hp, hs, by rw [patL_length, ← h2, nums_length], h1, by rw [h2]⟩
end Go.Proofs.YtabfjmabiapgoaaDoor


/-
  PLAIN: occurrences some of whose places are side by side. Nothing here speaks of the program.
-/

namespace Go.Proofs.YtabfjmabiapgoaaDoor
set_option maxRecDepth 100000

/-- A permutation, and numbers of places that are joined with the next one. -/
def nearOK (q J : List Int) : Bool := isP q && decide (PlOK (q.length - 1) J)
theorem nearOK_iff {q J : List Int} : nearOK q J = true ↔ isP q = true ∧ PlOK (q.length - 1) J := by
  unfold nearOK; rw [Bool.and_eq_true, decide_eq_true_eq]
/-- The joined places are side by side. -/
def fitJ (J pl : List Int) : Bool := J.all fun j => decide (at0 pl j.toNat = at0 pl (j.toNat - 1) + 1)
theorem fitJ_iff {J pl : List Int} : fitJ J pl = true ↔ ∀ j ∈ J, at0 pl j.toNat = at0 pl (j.toNat - 1) + 1 := by
  unfold fitJ
  simp only [List.all_eq_true, decide_eq_true_eq]
theorem fitJ_nil (pl : List Int) : fitJ [] pl = true := rfl
/-- The occurrences of a Near. -/
def nearR (p q J : List Int) : List (List Int) := (occR p q).filter (fitJ J)
def numNear (p q J : List Int) : Int := if isP p && nearOK q J then ((nearR p q J).length : Int) else -1
theorem numNear_yes {p q J : List Int} (hp : isP p = true) (h : nearOK q J = true) : numNear p q J = ((nearR p q J).length : Int) := by unfold numNear; rw [if_pos (by simp [hp, h])]
theorem numNear_no {p q J : List Int} (h : isP p = false ∨ nearOK q J = false) : numNear p q J = -1 := by
  unfold numNear
  rw [if_neg (by rcases h with h | h <;> simp [h])]
theorem nearOK_nil {q : List Int} (hq : isP q = true) : nearOK q [] = true := nearOK_iff.2 ⟨hq, PlOK.nil _⟩
theorem near_plain (p q : List Int) : nearR p q [] = occR p q := List.filter_eq_self.2 fun _ _ => rfl
theorem near_le (p q J : List Int) : (nearR p q J).length ≤ (occR p q).length := List.length_filter_le _ _
theorem near_nodup (p q J : List Int) : (nearR p q J).Nodup := (asc_nodup (occ_asc p q)).sublist List.filter_sublist

/-! the reverse -/
theorem plRev_at {n : Nat} {pl : List Int} {i : Nat} (h : i < pl.length) : at0 (plRev n pl) i = (n : Int) + 1 - at0 pl (pl.length - 1 - i) := by
  unfold plRev
  rw [at0_rev (by rw [List.length_map]; exact h), List.length_map]
  exact at0_of (by rw [List.getElem?_map, at0_some (by omega)]; rfl)
theorem fit_rev {n : Nat} {J pl : List Int} (hJ : PlOK (pl.length - 1) J) (hf : fitJ J pl = true) : fitJ (plRev (pl.length - 1) J) (plRev n pl) = true := by
  rw [fitJ_iff] at hf ⊢
  intro j hj
  unfold plRev at hj
  rw [List.mem_reverse, List.mem_map] at hj
  obtain ⟨x, hx, rfl⟩ := hj
  have hr := hJ.1 x hx
  have h1 := hf x hx
  rw [plRev_at (by omega), plRev_at (by omega)]
  rw [show pl.length - 1 - (((pl.length - 1 : Nat) : Int) + 1 - x).toNat = x.toNat - 1 by omega, show pl.length - 1 - ((((pl.length - 1 : Nat) : Int) + 1 - x).toNat - 1) = x.toNat by omega]
  omega
theorem near_rev_le {p q J : List Int} (hJ : PlOK (q.length - 1) J) : (nearR p q J).length ≤ (nearR p.reverse q.reverse (plRev (q.length - 1) J)).length :=
  inject_le (plRev p.length) (near_nodup p q J) (fun pl h => by
    unfold nearR at h ⊢
    rw [List.mem_filter] at h ⊢
    have hl := (isOcc_iff.1 (mem_occ.1 h.1)).2.2.1
    exact ⟨occ_rev h.1, by rw [← hl] at hJ ⊢; exact fit_rev hJ h.2⟩) fun x _ y _ e => by rw [← plRev_back p.length x, e, plRev_back]
theorem near_rev {p q J : List Int} (hJ : PlOK (q.length - 1) J) : (nearR p.reverse q.reverse (plRev (q.length - 1) J)).length = (nearR p q J).length := by
  have h1 := near_rev_le (p := p) (q := q) hJ
  have h2 := near_rev_le (p := p.reverse) (q := q.reverse) (J := plRev (q.length - 1) J) (by rw [List.length_reverse]; exact plRev_ok hJ)
  rw [List.reverse_reverse, List.reverse_reverse, List.length_reverse, plRev_back] at h2
  omega

/-! all places joined -/
def conJ (n : Nat) : List Int := (List.range (n - 1)).map fun (i : Nat) => (i : Int) + 1
theorem conJ_mem {n : Nat} {j : Int} : j ∈ conJ n ↔ 1 ≤ j ∧ j ≤ ((n - 1 : Nat) : Int) := by
  unfold conJ
  rw [List.mem_map]
  constructor
  · rintro ⟨i, hi, rfl⟩
    rw [List.mem_range] at hi
    omega
  · rintro ⟨h1, h2⟩
    exact ⟨j.toNat - 1, List.mem_range.2 (by omega), by omega⟩
theorem conJ_ok (n : Nat) : PlOK (n - 1) (conJ n) := by
  refine ⟨fun x hx => by have := conJ_mem.1 hx; omega, ?_⟩
  unfold conJ
  rw [List.pairwise_map]
  exact List.pairwise_lt_range.imp fun h => by omega
theorem con_near {q : List Int} (hq : isP q = true) : nearOK q (conJ q.length) = true := nearOK_iff.2 ⟨hq, conJ_ok _⟩
/-- Places in a run. -/
def runPl (k m : Nat) : List Int := (List.range m).map fun (i : Nat) => ((k + i : Nat) : Int) + 1
theorem runPl_length (k m : Nat) : (runPl k m).length = m := by simp [runPl]
theorem runPl_at {k m i : Nat} (h : i < m) : at0 (runPl k m) i = ((k + i : Nat) : Int) + 1 := at0_of (by unfold runPl; rw [List.getElem?_map, List.getElem?_range h]; rfl)
theorem runPl_ok {k m n : Nat} (h : k + m ≤ n) : PlOK n (runPl k m) := by
  constructor
  · intro x hx
    unfold runPl at hx
    rw [List.mem_map] at hx
    obtain ⟨i, hi, rfl⟩ := hx
    rw [List.mem_range] at hi
    omega
  · unfold runPl
    rw [List.pairwise_map]
    exact List.pairwise_lt_range.imp fun h => by omega
theorem runPl_nums {p : List Int} {k m : Nat} (h : k + m ≤ p.length) : nums p (runPl k m) = (p.drop k).take m := by
  refine ext_at0 (by rw [nums_length, runPl_length, List.length_take, List.length_drop]; omega) fun i hi => ?_
  rw [nums_length, runPl_length] at hi
  rw [nums_at0 (by rw [runPl_length]; exact hi), runPl_at hi]
  refine (at0_of ?_).symm
  rw [List.getElem?_take, if_pos hi, List.getElem?_drop, at0_some (by omega)]
  congr 2
theorem runPl_fit (k m : Nat) : fitJ (conJ m) (runPl k m) = true := by
  rw [fitJ_iff]
  intro j hj
  have := conJ_mem.1 hj
  rw [runPl_at (by omega), runPl_at (by omega)]
  omega
theorem fit_run {pl : List Int} {n : Nat} (hok : PlOK n pl) (h0 : 0 < pl.length) (hf : fitJ (conJ pl.length) pl = true) : pl = runPl ((at0 pl 0).toNat - 1) pl.length ∧ (at0 pl 0).toNat - 1 + pl.length ≤ n := by
  rw [fitJ_iff] at hf
  have h1 := hok.rng h0
  have key : ∀ i, i < pl.length → at0 pl i = at0 pl 0 + (i : Int) := by
    intro i
    induction i with
    | zero => intro _; simp
    | succ i ih =>
      intro hi
      have h2 := hf ((i : Int) + 1) (conJ_mem.2 (by omega))
      rw [show ((i : Int) + 1).toNat = i + 1 by omega, Nat.add_sub_cancel, ih (by omega)] at h2
      rw [h2]; omega
  refine ⟨ext_at0 (by rw [runPl_length]) fun i hi => by rw [runPl_at hi, key i hi]; omega, ?_⟩
  have h3 := key (pl.length - 1) (by omega)
  have h4 := hok.rng (i := pl.length - 1) (by omega)
  omega
/-- The beginnings of the runs with this pattern, among the first k. -/
def runK (p q : List Int) (k : Nat) : List Nat := (List.range k).filter fun i => decide (patL ((p.drop i).take q.length) = q)
def runN (p q : List Int) : Nat := (runK p q (p.length + 1 - q.length)).length
theorem near_runs {p q : List Int} (hp : isP p = true) (hq : isP q = true) (h0 : 0 < q.length) : (nearR p q (conJ q.length)).length = runN p q := by
  have hin : ∀ pl, pl ∈ nearR p q (conJ q.length) ↔ pl ∈ (runK p q (p.length + 1 - q.length)).map fun k => runPl k q.length := by
    intro pl
    unfold nearR
    rw [List.mem_filter, mem_occ, isOcc_iff, List.mem_map]
    constructor
    · rintro ⟨⟨_, _, h1, h2, h3⟩, h4⟩
      rw [← h1] at h4
      obtain ⟨h5, h6⟩ := fit_run h2 (by omega) h4
      refine ⟨(at0 pl 0).toNat - 1, ?_, by rw [← h1]; exact h5.symm⟩
      unfold runK
      rw [List.mem_filter, List.mem_range, decide_eq_true_eq, ← runPl_nums (by omega), ← h1, ← h5]
      exact ⟨by omega, h3.trans rfl⟩
    · rintro ⟨k, hk, rfl⟩
      unfold runK at hk
      rw [List.mem_filter, List.mem_range, decide_eq_true_eq] at hk
      exact ⟨⟨hp, hq, runPl_length _ _, runPl_ok (by omega), by rw [runPl_nums (by omega)]; exact hk.2⟩, runPl_fit _ _⟩
  have hnd : ((runK p q (p.length + 1 - q.length)).map fun k => runPl k q.length).Nodup := by
    rw [List.nodup_iff_pairwise_ne, List.pairwise_map]
    refine ((List.pairwise_lt_range (n := p.length + 1 - q.length)).sublist (List.filter_sublist (p := fun i => decide (patL ((p.drop i).take q.length) = q)))).imp fun {a b} hab e => ?_
    have h1 := congrArg (fun l => at0 l 0) e
    simp only [runPl_at h0] at h1
    omega
  have h1 := pigeonL_le (near_nodup p q (conJ q.length)) fun x hx => (hin x).1 hx
  have h2 := pigeonL_le hnd fun x hx => (hin x).2 hx
  rw [List.length_map] at h1 h2
  unfold runN
  omega
end Go.Proofs.YtabfjmabiapgoaaDoor


/-
  PLAIN: a permutation's text, and back. Nothing here speaks of the program.
-/

namespace Go.Proofs.YtabfjmabiapgoaaDoor
set_option maxRecDepth 100000

def dgt (z : Int) : UInt8 := UInt8.ofNat (48 + z.toNat)
def textL (l : List Int) : List UInt8 := l.map dgt
theorem textL_length (l : List Int) : (textL l).length = l.length := by simp [textL]
theorem textL_nil : textL [] = [] := rfl
theorem textL_step {l : List Int} {k : Nat} {z : Int} (h : l[k]? = some z) : textL (l.take (k + 1)) = textL (l.take k) ++ [dgt z] := by unfold textL; rw [take_snoc_i h, List.map_append, List.map_singleton]
theorem itoa_one {z : Int} (h0 : 1 ≤ z) (h1 : z ≤ 8) : Lib.itoa z = [dgt z] := by
  rw [Lib.itoa, if_neg (by omega)]
  exact Lib.decDigits_one (by omega)
/-- The text's numbers as integers. -/
def textI (l : List Int) : List Int := l.map (48 + ·)
theorem textI_length (l : List Int) : (textI l).length = l.length := by simp [textI]
theorem textI_at {l : List Int} {k : Nat} {z : Int} (h : l[k]? = some z) : (textI l)[k]? = some (48 + z) := by unfold textI; rw [List.getElem?_map, h]; rfl
theorem push_list : ∀ (ns : List Int) (s : ByteArray), (ns.foldl (fun r n => r.push (UInt8.ofNat n.toNat)) s) = ⟨s.data ++ (ns.map fun n => UInt8.ofNat n.toNat).toArray⟩
  | [], s => by simp
  | n :: ns, s => by
    rw [List.foldl_cons, push_list ns]
    simp [ByteArray.push]
theorem textI_bytes {l : List Int} (h : ∀ z ∈ l, 0 ≤ z) : (textI l).map (fun n => UInt8.ofNat n.toNat) = textL l := by
  unfold textI textL
  rw [List.map_map]
  refine List.map_congr_left fun z hz => ?_
  have := h z hz
  simp only [Function.comp, dgt]
  congr 1
  omega

def ptext (l : List Int) : ByteArray := if isP l then (if l = [] then ⟨#[45]⟩ else ⟨(textL l).toArray⟩) else ByteArray.empty
theorem ptext_no {l : List Int} (h : isP l = false) : ptext l = ByteArray.empty := by unfold ptext; rw [if_neg (by simp [h])]
theorem ptext_nil {l : List Int} (h : isP l = true) (h0 : l.length = 0) : ptext l = ⟨#[45]⟩ := by unfold ptext; rw [if_pos h, if_pos (List.eq_nil_of_length_eq_zero h0)]
theorem ptext_yes {l : List Int} (h : isP l = true) (h0 : l.length ≠ 0) : ptext l = ⟨(textL l).toArray⟩ := by
  unfold ptext
  rw [if_pos h, if_neg (fun e => h0 (by rw [e]; rfl))]

/-- A text's numbers. -/
def tnums (s : ByteArray) : List Int := s.data.toList.map fun b => (b.toNat : Int) - 48
theorem tnums_length (s : ByteArray) : (tnums s).length = s.size := by
  unfold tnums
  rw [List.length_map, Array.length_toList]; rfl
theorem tnums_at {s : ByteArray} {k : Nat} (h : k < s.size) : (tnums s)[k]? = some ((s[k].toNat : Int) - 48) := by
  have hl : s.data.toList.length = s.size := by rw [Array.length_toList]; rfl
  unfold tnums
  rw [List.getElem?_map, List.getElem?_eq_getElem (by omega)]
  rfl
theorem tnums_small {s : ByteArray} : ∀ z ∈ tnums s, -48 ≤ z ∧ z ≤ 207 := by
  intro z hz
  unfold tnums at hz
  obtain ⟨b, _, rfl⟩ := List.mem_map.1 hz
  have := b.toNat_lt
  omega
def ppOK (s : ByteArray) : Bool := decide (s = ⟨#[45]⟩) || (decide (0 < s.size) && isP (tnums s))
def ppR (s : ByteArray) : List Int := if s = ⟨#[45]⟩ then [] else if ppOK s then tnums s else []
theorem ppOK_dash : ppOK ⟨#[45]⟩ = true := by simp [ppOK]
theorem ppR_dash : ppR ⟨#[45]⟩ = [] := by simp [ppR]
theorem ppOK_else {s : ByteArray} (h : s ≠ ⟨#[45]⟩) (h0 : 0 < s.size) : ppOK s = isP (tnums s) := by simp [ppOK, h, h0]
theorem ppOK_none {s : ByteArray} (h : s ≠ ⟨#[45]⟩) (h0 : s.size = 0) : ppOK s = false := by simp [ppOK, h, h0]
theorem ppR_yes {s : ByteArray} (h : s ≠ ⟨#[45]⟩) (hk : ppOK s = true) : ppR s = tnums s := by unfold ppR; rw [if_neg h, if_pos hk]
theorem ppR_no {s : ByteArray} (h : s ≠ ⟨#[45]⟩) (hk : ppOK s = false) : ppR s = [] := by unfold ppR; rw [if_neg h, if_neg (by simp [hk])]
theorem ppR_le (s : ByteArray) : (ppR s).length ≤ 8 := by
  by_cases h : s = ⟨#[45]⟩
  · subst h; rw [ppR_dash]; simp
  · cases hk : ppOK s with
    | false => rw [ppR_no h hk]; simp
    | true =>
      rw [ppR_yes h hk]
      by_cases h0 : 0 < s.size
      · rw [ppOK_else h h0] at hk
        exact isP_le hk
      · rw [tnums_length]; omega
end Go.Proofs.YtabfjmabiapgoaaDoor


/-
  PLAIN: the text of neighboring places, and back. Nothing here speaks of the program.
-/

namespace Go.Proofs.YtabfjmabiapgoaaDoor
set_option maxRecDepth 100000

theorem ints_unique : ∀ {a b : List Int}, a.Pairwise (· < ·) → b.Pairwise (· < ·) → (∀ x, x ∈ a ↔ x ∈ b) → a = b
  | [], [], _, _, _ => rfl
  | [], y :: b, _, _, h => by have := (h y).2 (by simp); simp at this
  | x :: a, [], _, _, h => by have := (h x).1 (by simp); simp at this
  | x :: a, y :: b, ha, hb, h => by
    have h1 := List.pairwise_cons.1 ha
    have h2 := List.pairwise_cons.1 hb
    have hxy : x = y := by
      rcases List.mem_cons.1 ((h x).1 (by simp)) with e | e
      · exact e
      · rcases List.mem_cons.1 ((h y).2 (by simp)) with e' | e'
        · exact e'.symm
        · have := h2.1 x e; have := h1.1 y e'; omega
    subst hxy
    rw [ints_unique h1.2 h2.2 fun z => by
      constructor
      · intro hz
        rcases List.mem_cons.1 ((h z).1 (by simp [hz])) with e | e
        · have := h1.1 z hz; omega
        · exact e
      · intro hz
        rcases List.mem_cons.1 ((h z).2 (by simp [hz])) with e | e
        · have := h2.1 z hz; omega
        · exact e]

/-- The text of the first k numbers. -/
def nearB (q J : List Int) : Nat → List UInt8
  | 0 => []
  | k + 1 => nearB q J k ++ ((if 0 < k ∧ ¬ (k : Int) ∈ J then [95] else []) ++ [dgt (at0 q k)])
def ntext (q J : List Int) : ByteArray := if nearOK q J then (if q = [] then ⟨#[45]⟩ else ⟨(nearB q J q.length).toArray⟩) else ByteArray.empty
theorem ntext_no {q J : List Int} (h : nearOK q J = false) : ntext q J = ByteArray.empty := by unfold ntext; rw [if_neg (by simp [h])]
theorem ntext_nil {q J : List Int} (h : nearOK q J = true) (h0 : q.length = 0) : ntext q J = ⟨#[45]⟩ := by unfold ntext; rw [if_pos h, if_pos (List.eq_nil_of_length_eq_zero h0)]
theorem ntext_yes {q J : List Int} (h : nearOK q J = true) (h0 : q.length ≠ 0) : ntext q J = ⟨(nearB q J q.length).toArray⟩ := by unfold ntext; rw [if_pos h, if_neg (fun e => h0 (by rw [e]; rfl))]
theorem nearB_len (q J : List Int) : ∀ k, (nearB q J k).length ≤ 2 * k
  | 0 => Nat.le_refl _
  | k + 1 => by
    have := nearB_len q J k
    rw [nearB]; split <;> simp <;> omega

/-- A text without what stands between. -/
def scanD (s : List UInt8) : List UInt8 := s.filter fun b => decide (b ≠ 95)
/-- The joined places that the first k bytes tell. -/
def scanJ (s : List UInt8) : Nat → List Int
  | 0 => []
  | k + 1 => if s[k]?.getD 0 = 95 then scanJ s k else if 0 < k ∧ s[k - 1]?.getD 0 ≠ 95 then scanJ s k ++ [((scanD (s.take k)).length : Int)] else scanJ s k
theorem scanJ_app (s t : List UInt8) : ∀ k, k ≤ s.length → scanJ (s ++ t) k = scanJ s k
  | 0, _ => rfl
  | k + 1, h => by
    rw [scanJ, scanJ, scanJ_app s t k (by omega), List.getElem?_append_left (by omega), List.getElem?_append_left (show k - 1 < s.length by omega), List.take_append_of_le_length (by omega)]
theorem dgt_ne {z : Int} (h0 : 1 ≤ z) (h1 : z ≤ 8) : dgt z ≠ 95 := by
  obtain ⟨n, rfl⟩ : ∃ n : Nat, z = (n : Int) := ⟨z.toNat, by omega⟩
  have h2 : n ≤ 8 := by omega
  have : ∀ m, m ≤ 8 → dgt ((m : Nat) : Int) ≠ 95 := by decide
  exact this n h2
theorem scan_near {q J : List Int} (hq : isP q = true) : ∀ k, k ≤ q.length → scanD (nearB q J k) = textL (q.take k) ∧ scanJ (nearB q J k) (nearB q J k).length = (((List.range k).filter fun (i : Nat) => decide (0 < i ∧ (i : Int) ∈ J)) : List Nat).map (fun (i : Nat) => (i : Int)) ∧ (0 < k → (nearB q J k)[(nearB q J k).length - 1]?.getD 0 ≠ 95)
  | 0, _ => ⟨rfl, rfl, fun h => by omega⟩
  | k + 1, h => by
    obtain ⟨h1, h2, h3⟩ := scan_near (J := J) hq k (by omega)
    have hr := isP_range hq (at0_some (show k < q.length by omega))
    have h8 := isP_le hq
    have hd := dgt_ne hr.1 (by omega)
    have hD : scanD [dgt (at0 q k)] = [dgt (at0 q k)] := by unfold scanD; rw [List.filter_cons_of_pos (by simpa using hd)]; rfl
    have ht : textL (q.take (k + 1)) = textL (q.take k) ++ [dgt (at0 q k)] := textL_step (at0_some (by omega))
    have hlen : (scanD (nearB q J k)).length = k := by rw [h1, textL_length, List.length_take]; omega
    rw [List.range_succ, List.filter_append, List.map_append]
    by_cases hs : 0 < k ∧ ¬ (k : Int) ∈ J
    · have e : nearB q J (k + 1) = (nearB q J k ++ [95]) ++ [dgt (at0 q k)] := by rw [nearB, if_pos hs, List.append_assoc]
      rw [e]
      refine ⟨?_, ?_, fun _ => ?_⟩
      · unfold scanD at h1 hD ⊢
        rw [List.filter_append, List.filter_append, h1, hD, ht]
        simp
      · rw [List.length_append, List.length_append, List.length_singleton, List.length_singleton, scanJ, if_neg (by simpa using hd), if_neg (by simp), scanJ_app _ _ _ (by simp), scanJ, if_pos (by simp), scanJ_app _ _ _ (Nat.le_refl _), h2]
        rw [List.filter_cons_of_neg (by simp [hs])]
        simp
      · simpa using hd
    · have e : nearB q J (k + 1) = nearB q J k ++ [dgt (at0 q k)] := by rw [nearB, if_neg hs, List.nil_append]
      rw [e]
      refine ⟨?_, ?_, fun _ => ?_⟩
      · unfold scanD at h1 hD ⊢
        rw [List.filter_append, h1, hD, ht]
      · rw [List.length_append, List.length_singleton, scanJ, if_neg (by simpa using hd), scanJ_app _ _ _ (Nat.le_refl _), h2]
        by_cases h0 : k = 0
        · subst h0
          rw [if_neg (by simp [nearB])]
          simp
        · have hp : 0 < (nearB q J k).length := by
            have h4 : (scanD (nearB q J k)).length ≤ (nearB q J k).length := List.length_filter_le _ _
            omega
          have hj : (k : Int) ∈ J := by
            by_cases hj : (k : Int) ∈ J
            · exact hj
            · exact absurd ⟨by omega, hj⟩ hs
          rw [if_pos ⟨hp, by rw [List.getElem?_append_left (by omega)]; exact h3 (by omega)⟩, List.take_append_of_le_length (Nat.le_refl _), List.take_length, hlen, List.filter_cons_of_pos (by simp [hj]; omega)]
          rfl
      · simpa using hd
theorem scan_back {q J : List Int} (h : nearOK q J = true) : scanD (nearB q J q.length) = textL q ∧ scanJ (nearB q J q.length) (nearB q J q.length).length = J := by
  obtain ⟨hq, hJ⟩ := nearOK_iff.1 h
  obtain ⟨h1, h2, _⟩ := scan_near (J := J) hq q.length (Nat.le_refl _)
  refine ⟨by rw [h1, List.take_length], ?_⟩
  rw [h2]
  refine ints_unique ?_ hJ.2 fun x => ?_
  · rw [List.pairwise_map]
    exact ((List.pairwise_lt_range (n := q.length)).sublist List.filter_sublist).imp fun h => by omega
  · rw [List.mem_map]
    constructor
    · rintro ⟨i, hi, rfl⟩
      rw [List.mem_filter, decide_eq_true_eq] at hi
      exact hi.2.2
    · intro hx
      have hr := hJ.1 x hx
      exact ⟨x.toNat, by rw [List.mem_filter, List.mem_range, decide_eq_true_eq]; exact ⟨by omega, by omega, by rw [show ((x.toNat : Nat) : Int) = x by omega]; exact hx⟩, by omega⟩
end Go.Proofs.YtabfjmabiapgoaaDoor


/-
  PLAIN: splitting a list at a byte, round for round and by the first place. Nothing here speaks of the program.
-/

namespace Go.Proofs.YtabfjmabiapgoaaDoor
set_option maxRecDepth 100000

def splitL (c : UInt8) : List UInt8 → List (List UInt8)
  | [] => [[]]
  | x :: r => if x = c then [] :: splitL c r else match splitL c r with
    | h :: t => (x :: h) :: t
    | [] => [[x]]
theorem splitL_ne (c : UInt8) : ∀ l, splitL c l ≠ []
  | [] => by simp [splitL]
  | x :: r => by
    unfold splitL
    split
    · simp
    · split <;> simp
/-- pre ahead of the first piece. -/
def glue (pre : List UInt8) : List (List UInt8) → List (List UInt8)
  | h :: t => (pre ++ h) :: t
  | [] => [pre]
theorem glue_nil {ps : List (List UInt8)} (h : ps ≠ []) : glue [] ps = ps := by cases ps with
  | nil => exact absurd rfl h
  | cons a b => rfl
theorem split_hit (c : UInt8) (pre r : List UInt8) : glue pre (splitL c (c :: r)) = pre :: splitL c r := by
  rw [splitL, if_pos rfl]; simp [glue]
theorem split_miss {c x : UInt8} (h : x ≠ c) (pre r : List UInt8) : glue pre (splitL c (x :: r)) = glue (pre ++ [x]) (splitL c r) := by
  rw [splitL, if_neg h]
  cases hs : splitL c r with
  | nil => exact absurd hs (splitL_ne c r)
  | cons a b => simp [glue]
theorem splitL_no {c : UInt8} : ∀ {l : List UInt8}, c ∉ l → splitL c l = [l]
  | [], _ => rfl
  | x :: r, h => by
    rw [splitL, if_neg (fun e => h (by simp [e])), splitL_no (fun e => h (by simp [e]))]
theorem splitL_at {c : UInt8} : ∀ {a b : List UInt8}, c ∉ a → splitL c (a ++ c :: b) = a :: splitL c b
  | [], b, _ => by rw [List.nil_append, splitL, if_pos rfl]
  | x :: r, b, h => by
    rw [List.cons_append, splitL, if_neg (fun e => h (by simp [e])), splitL_at (fun e => h (by simp [e]))]

theorem splitK_eq (c : UInt8) : ∀ (k : Nat) (l : List UInt8), l.count c = k → Lib.splitK [c] 0 k l = splitL c l
  | 0, l, h => by
    rw [splitL_no (List.count_eq_zero.1 h)]; rfl
  | k + 1, l, h => by
    have hm : c ∈ l := List.count_pos_iff.1 (by omega)
    have hge := Lib.indexByte_ge l c
    have hne : Lib.indexByte l c ≠ -1 := fun e => by
      obtain ⟨i, hi, he⟩ := List.getElem_of_mem hm
      exact Lib.indexByte_none e i (by rw [List.getElem?_eq_getElem hi, he])
    obtain ⟨i, hi⟩ : ∃ i : Nat, Lib.indexByte l c = i := ⟨(Lib.indexByte l c).toNat, by omega⟩
    obtain ⟨h1, h2⟩ := Lib.indexByte_some hi
    obtain ⟨hil, hic⟩ := List.getElem?_eq_some_iff.1 h1
    have hno : c ∉ l.take i := fun hmem => by
      obtain ⟨j, hj, he⟩ := List.getElem_of_mem hmem
      rw [List.length_take] at hj
      rw [List.getElem_take] at he
      exact h2 j (by omega) (by rw [List.getElem?_eq_getElem (by omega), he])
    have hsplit : l = l.take i ++ c :: l.drop (i + 1) := by
      conv => lhs; rw [← List.take_append_drop i l, List.drop_eq_getElem_cons hil, hic]
    have hcount : (l.drop (i + 1)).count c = k := by
      have e := congrArg (List.count c) hsplit
      rw [List.count_append, List.count_cons_self, List.count_eq_zero.2 hno, h] at e
      omega
    have e1 : (Lib.index l [c] == -1) = false := by rw [Lib.index_one, beq_eq_false_iff_ne]; exact hne
    have e2 : (Lib.index l [c]).toNat = i := by rw [Lib.index_one, hi]; rfl
    rw [Lib.splitK, e1, e2]
    simp only [Bool.false_eq_true, if_false, Nat.add_zero, List.length_singleton]
    rw [splitK_eq c k _ hcount]
    conv => rhs; rw [hsplit, splitL_at hno]
theorem splitB_eq (s : ByteArray) (c : UInt8) : (Lib.splitB ⟨#[c]⟩ 0 (Lib.countB s ⟨#[c]⟩) s).map (·.data.toList) = splitL c s.data.toList := by
  rw [Lib.splitB_data]
  have h : Lib.countB s ⟨#[c]⟩ = s.data.toList.count c := Lib.count_one c s.data.toList
  rw [h]
  exact splitK_eq c _ _ rfl
theorem bytes_inj_list : ∀ {xs ys : List ByteArray}, xs.map (·.data.toList) = ys.map (·.data.toList) → xs = ys
  | [], [], _ => rfl
  | [], _ :: _, h => by cases h
  | _ :: _, [], h => by cases h
  | x :: xs, y :: ys, h => by
    simp only [List.map_cons, List.cons.injEq] at h
    rw [bytes_inj_list h.2]
    congr 1
    cases x; cases y
    simpa using h.1
/-- The pieces of s at c. -/
def pieces (s : ByteArray) (c : UInt8) : List ByteArray := (splitL c s.data.toList).map fun l => ⟨l.toArray⟩
theorem pieces_data (s : ByteArray) (c : UInt8) : (pieces s c).map (·.data.toList) = splitL c s.data.toList := by
  unfold pieces
  rw [List.map_map]
  exact (List.map_congr_left (fun l _ => by simp)).trans (List.map_id _)
theorem splitB_pieces (s : ByteArray) (c : UInt8) : Lib.splitB ⟨#[c]⟩ 0 (Lib.countB s ⟨#[c]⟩) s = pieces s c :=
  bytes_inj_list ((splitB_eq s c).trans (pieces_data s c).symm)
theorem pieces_length (s : ByteArray) (c : UInt8) : (pieces s c).length = Lib.countB s ⟨#[c]⟩ + 1 := by
  rw [← splitB_pieces]
  exact Lib.splitB_all ⟨#[c]⟩ (Nat.le_refl 1) 0 _ s rfl
theorem splitL_length (c : UInt8) : ∀ l, (splitL c l).length = l.count c + 1
  | [] => rfl
  | x :: r => by
    have ih := splitL_length c r
    unfold splitL
    by_cases h : x = c
    · rw [if_pos h, List.length_cons, ih, h, List.count_cons_self]
    · rw [if_neg h]
      rw [List.count_cons_of_ne h]
      cases hs : splitL c r with
      | nil => exact absurd hs (splitL_ne c r)
      | cons a b => rw [hs] at ih; simpa using ih
theorem pieces_le (s : ByteArray) (c : UInt8) : (pieces s c).length ≤ s.size + 1 := by
  have h1 : (pieces s c).length = (splitL c s.data.toList).length := by unfold pieces; rw [List.length_map]
  have h2 := List.count_le_length (a := c) (l := s.data.toList)
  have h3 : s.data.toList.length = s.size := by rw [Array.length_toList]; rfl
  rw [h1, splitL_length]
  omega

theorem split_parts (c : UInt8) : ∀ (l : List UInt8), ∀ p ∈ splitL c l, c ∉ p ∧ p.length ≤ l.length
  | [], p, h => by
    obtain rfl := List.mem_singleton.1 h
    exact ⟨by simp, by simp⟩
  | x :: r, p, h => by
    have ih := split_parts c r
    rw [splitL] at h
    by_cases hx : x = c
    · rw [if_pos hx] at h
      rcases List.mem_cons.1 h with rfl | h
      · exact ⟨by simp, by simp⟩
      · have := ih p h; exact ⟨this.1, by rw [List.length_cons]; omega⟩
    · rw [if_neg hx] at h
      cases hs : splitL c r with
      | nil => exact absurd hs (splitL_ne c r)
      | cons a b =>
        rw [hs] at h ih
        rcases List.mem_cons.1 h with rfl | h
        · have := ih a (by simp)
          refine ⟨fun hm => ?_, by rw [List.length_cons, List.length_cons]; omega⟩
          rcases List.mem_cons.1 hm with rfl | hm
          · exact hx rfl
          · exact this.1 hm
        · have := ih p (by simp [h]); exact ⟨this.1, by rw [List.length_cons]; omega⟩
theorem pieces_parts {s : ByteArray} {c : UInt8} {p : ByteArray} (h : p ∈ pieces s c) : (pieces p c).length = 1 ∧ p.size ≤ s.size := by
  unfold pieces at h
  obtain ⟨l, hl, rfl⟩ := List.mem_map.1 h
  have hp := split_parts c _ l hl
  have e : s.data.toList.length = s.size := by rw [Array.length_toList]; rfl
  refine ⟨?_, ?_⟩
  · unfold pieces
    rw [List.length_map]
    show (splitL c l).length = 1
    rw [splitL_no hp.1]; rfl
  · show l.toArray.size ≤ s.size
    rw [List.size_toArray]; omega
theorem join_split (c : UInt8) : ∀ l, Lib.join (splitL c l) [c] = l
  | [] => Lib.join_one _ _
  | x :: r => by
    have ih := join_split c r
    rw [splitL]
    by_cases hx : x = c
    · rw [if_pos hx, Lib.join_cons, List.nil_append]
      cases hs : splitL c r with
      | nil => exact absurd hs (splitL_ne c r)
      | cons a b =>
        rw [hs, Lib.join_cons] at ih
        simp only [Lib.joinTail, List.map_cons, List.flatten_cons] at ih ⊢
        rw [List.append_assoc, ih, hx]; rfl
    · rw [if_neg hx]
      cases hs : splitL c r with
      | nil => exact absurd hs (splitL_ne c r)
      | cons a b =>
        rw [hs, Lib.join_cons] at ih
        show Lib.join ((x :: a) :: b) [c] = x :: r
        rw [Lib.join_cons, List.cons_append, ih]
theorem join_pieces (s : ByteArray) (c : UInt8) : Lib.join ((pieces s c).map (·.data.toList)) [c] = s.data.toList := by rw [pieces_data]; exact join_split c _
end Go.Proofs.YtabfjmabiapgoaaDoor


/-
  WORDS FOR MEMORY: a slice that reads as a list of values (nil let in), and what keeps it; a row of the call's own. Plain lemmas: nothing here speaks of the program.
-/

namespace Go.Proofs.YtabfjmabiapgoaaDoor
set_option maxRecDepth 100000
open Go.RowKit

theorem block_of_add (a : Addr) (n : Nat) : (a.add n).block = a.block := by unfold Addr.add; split <;> rfl
theorem add_of_add (a : Addr) (i j : Nat) : (a.add i).add j = a.add (i + j) := by
  unfold Addr.add
  by_cases hi : i = 0 <;> by_cases hj : j = 0 <;> simp [hi, hj, Nat.add_assoc]

/-- The slice value '.slice A n c' holds the one-cell values xs, below block B. -/
def Reads (w : World) (B : Nat) (A : Option Addr) (n : Nat) (xs : List Value) : Prop :=
  xs.length = n ∧ (0 < n → ∃ ad, A = some ad ∧ ad.block < B ∧ ∀ j u, xs[j]? = some u → w.cell? (ad.add j) = some u)

section
variable {w w' : World} {B B' n : Nat} {A : Option Addr} {xs : List Value}
theorem Reads.none_ : Reads w B A 0 [] := ⟨rfl, fun h => absurd h (by omega)⟩
theorem Reads.at_ {k : Nat} (h : Reads w B A n xs) (hk : k < n) : ∃ ad u, A = some ad ∧ ad.block < B ∧ xs[k]? = some u ∧ w.cell? (ad.add k) = some u := by
  obtain ⟨ad, e, hb, hc⟩ := h.2 (by omega)
  have hl : k < xs.length := by have := h.1; omega
  exact ⟨ad, xs[k], e, hb, List.getElem?_eq_getElem hl, hc k _ (List.getElem?_eq_getElem hl)⟩
theorem Reads.keep (h : Reads w B A n xs) (hk : ∀ p : Addr, p.block < B → w'.cell? p = w.cell? p) : Reads w' B A n xs :=
  ⟨h.1, fun hn => by
    obtain ⟨ad, e, hb, hc⟩ := h.2 hn
    exact ⟨ad, e, hb, fun j u hu => (hk _ (by rw [block_of_add]; exact hb)).trans (hc j u hu)⟩⟩
theorem Reads.more (h : Reads w B A n xs) (hB : B ≤ B') : Reads w B' A n xs :=
  ⟨h.1, fun hn => by
    obtain ⟨ad, e, hb, hc⟩ := h.2 hn
    exact ⟨ad, e, by omega, hc⟩⟩
theorem Reads.below (h : Reads w B A n xs) (hb : Below B w w') : Reads w' B A n xs := h.keep fun _ hp => hb.cell hp
theorem Reads.drew (h : Reads w B A n xs) : Reads w.drew B A n xs := h
theorem Reads.drewN (h : Reads w B A n xs) (k : Nat) : Reads (w.drewN k) B A n xs := h
theorem Reads.alloc (h : Reads w B A n xs) (hB : B ≤ w.heap.size) (o : Obj) : Reads (w.alloc o) B A n xs := h.keep fun p hp => World.cell?_alloc_lt w o p (by omega)
theorem Reads.setCell (h : Reads w B A n xs) {p : Addr} (hB : B ≤ p.block) (u : Value) : Reads (w.setCell p u) B A n xs :=
  h.keep fun q hq => World.cell?_setCell_other w p q u (fun e => by subst e; omega)
theorem Reads.grown (h : Reads w B A n xs) {row : Option Nat} (hg : w.grownBy w' row) (hB : B ≤ w.heap.size) (hr : ∀ g, row = some g → B ≤ g) : Reads w' B A n xs :=
  h.keep fun p hp => World.cell?_of_block (hg.block p.block (by omega) (fun e => by have := hr _ e.symm; omega))
theorem Reads.of_own {base : Nat} {e : TypeId} {v : Value} (h : w.ownsRow base e 1 v n xs) : ∃ A c, v = .slice A n c ∧ Reads w w.heap.size A n xs := by
  rcases h.2 with ⟨rfl, rfl⟩ | ⟨g, cap, cur, rfl, hb, hg, hnc, hcm, hsz, htake⟩
  · exact ⟨none, 0, rfl, by simpa using h.1, fun hn => by omega⟩
  · refine ⟨_, _, rfl, by simpa using h.1, fun _ => ⟨_, rfl, (Array.getElem?_eq_some_iff.1 hg).1, fun j u hu => h.cells (g := g) rfl j u hu⟩⟩
theorem Reads.of_own_at {base : Nat} {e : TypeId} {c : Nat} (h : w.ownsRow base e 1 (.slice A n c) n xs) : Reads w w.heap.size A n xs := by
  obtain ⟨A', c', hv, hr⟩ := Reads.of_own h
  injection hv with h1 h2 h3
  subst h1
  exact hr
end

/-- Two calls, one behind the other: what lay before the first stands behind the second. -/
theorem below_after {w0 w1 w2 : World} (h1 : Below w0.heap.size w0 w1) (h2 : Below w1.heap.size w1 w2) : Below w0.heap.size w0 w2 := h1.trans (h2.mono h1.size)

/-- 'out = append(out, x)', x one cell: out a row of the call's own. -/
theorem wpList_append_one {P : Program} {ops : Array Oper} {rest : List Oper} {o : Oper} {a : Act} {W : World} {Q : Exit → Act → World → Prop} (hgd : o.guard = none) (sl x : Operand) (t : TypeId)
    (ho : o.op = .call { callee := .builtin .append, args := #[sl, x], argTypes := #[t, t] })
    (base : Nat) (e : TypeId) (i : TypeInfo) (z : Value) (bytes : Nat) (ht : P.underlying t = some (.slice e)) (hi : P.info? e = some i) (hz : i.zero = some z) (hsize : i.size = 1) (hby : i.bytes = bytes) (hzs : z.cells.size = 1)
    (w0 wr : World) (v : Value) (n : Nat) (xs : List Value) (hs : a.eval sl = v) (hown : wr.ownsRow base e 1 v n xs) (y : Value) (hx : a.eval x = .slice (some ⟨wr.heap.size, 0, none⟩) 1 1) (hW : W = wr.alloc (.cells #[y] e)) (h1 : y.oneCell' = true)
    (hbytes : (n + 1) * bytes ≤ 140737488355328) (hn : n + 1 ≤ maxLen) (hb : Below base w0 wr) (hbase : base ≤ wr.heap.size)
    (h : ∀ v' w', w'.ownsRow base e 1 v' (n + 1) (xs ++ [y]) → Below base w0 w' → wr.grownBy w' v.ownBlock → wpList P ops Q rest (a.put o.dst v') w') : wpList P ops Q (o :: rest) a W := by
  subst hW
  refine wpList_append_own _ hgd sl x t ho base e i z 1 bytes ht hi hz hsize hby hzs (by decide) v n xs hs (hown.alloc _) ⟨wr.heap.size, 0, none⟩ 1 1 [y] hx rfl ?_ ?_ hn hbytes (by simp; omega) ?_
  · intro j u hj
    match j, hj with
    | 0, hj => simp at hj; subst hj; simp [Addr.add]
  · intro u hu
    obtain rfl := List.mem_singleton.1 hu
    exact h1
  · intro v' w' h2 h3 _
    refine h v' w' h2 ?_ ?_
    · exact (hb.alloc hbase _).grown h3 (by simp; omega) (fun k hk => (hown.lt k hk).1)
    · exact ⟨h3.os, h3.tape, h3.output, Nat.le_trans (by simp) h3.size, fun k hk hne => (h3.block k (by simp; omega) hne).trans (Below.heap_alloc wr _ k hk)⟩

theorem grown_of_below {w w' : World} (h : Below w.heap.size w w') (row : Option Nat) : w.grownBy w' row := ⟨h.os, h.tape, h.output, h.size, fun i hi _ => h.block i hi⟩
theorem own_below {w w' : World} {base n size : Nat} {e : TypeId} {v : Value} {xs : List Value} (h : w.ownsRow base e size v n xs) (hb : Below w.heap.size w w') : w'.ownsRow base e size v n xs :=
  h.kept (grown_of_below hb none) (by cases hv : v.ownBlock <;> simp)
theorem grown_then {a b c : World} {row : Option Nat} (h : a.grownBy b row) (k : b.grownBy c row) : a.grownBy c row :=
  ⟨k.os.trans h.os, k.tape.trans h.tape, k.output.trans h.output, Nat.le_trans h.size k.size, fun i hi hne => (k.block i (Nat.lt_of_lt_of_le hi h.size) hne).trans (h.block i hi hne)⟩
theorem below_of_grown {B : Nat} {a b : World} {row : Option Nat} (h : a.grownBy b row) (hB : B ≤ a.heap.size) (hr : ∀ k, row = some k → B ≤ k) : Below B a b := (Below.refl _ _).grown h hB hr
/-- A slice that reads below B, behind a change of one row at or above B. -/
theorem Reads.row {w w' : World} {B n : Nat} {A : Option Addr} {xs : List Value} (h : Reads w B A n xs) {g : Nat} (hg : w.grownBy w' (some g)) (hB : B ≤ w.heap.size) (hr : B ≤ g) : Reads w' B A n xs :=
  h.grown hg hB (fun k hk => by injection hk with hk; omega)

theorem keep_cell {wr w : World} {p : Addr} {v : Value} (h : wr.cell? p = some v) (hp : p.block < wr.heap.size) (hb : Below wr.heap.size wr w) : w.cell? p = some v ∧ Below wr.heap.size wr w := ⟨(hb.cell hp).trans h, hb⟩

/-- Bytes, integers as cells. -/
def u8s (bs : List UInt8) : List Value := bs.map fun b => .int .u8 b.toNat
theorem u8_at {bs : List UInt8} {k : Nat} {u : Value} (h : (u8s bs)[k]? = some u) : ∃ b : UInt8, bs[k]? = some b ∧ u = .int .u8 b.toNat := by
  unfold u8s at h
  rw [List.getElem?_map] at h
  cases hs : bs[k]? with
  | none => simp [hs] at h
  | some s => simp [hs] at h; exact ⟨s, rfl, h.symm⟩
def i64s (zs : List Int) : List Value := zs.map (Value.int .i64)
theorem i64_at {zs : List Int} {k : Nat} {u : Value} (h : (i64s zs)[k]? = some u) : ∃ z, zs[k]? = some z ∧ u = .int .i64 z := by
  unfold i64s at h
  rw [List.getElem?_map] at h
  cases hs : zs[k]? with
  | none => simp [hs] at h
  | some s => simp [hs] at h; exact ⟨s, rfl, h.symm⟩

/-- Nothing but draws. -/
def Drew (w w' : World) : Prop := ∃ n : Nat, w' = w.drewN n
theorem Drew.refl (w : World) : Drew w w := ⟨0, rfl⟩
theorem Drew.of_eq {w w' : World} (h : w' = w) : Drew w w' := by subst h; exact Drew.refl _
theorem Drew.more {w w' : World} (h : Drew w w') (k : Nat) : Drew w (w'.drewN k) := by
  obtain ⟨n, rfl⟩ := h
  exact ⟨n + k, by rw [World.drewN_drewN]⟩
theorem Drew.trans {a b c : World} (h : Drew a b) (k : Drew b c) : Drew a c := by
  obtain ⟨n, rfl⟩ := k
  exact h.more n
theorem Drew.cell {w w' : World} (h : Drew w w') (p : Addr) : w'.cell? p = w.cell? p := by obtain ⟨n, rfl⟩ := h; rfl
theorem Drew.size {w w' : World} (h : Drew w w') : w'.heap.size = w.heap.size := by obtain ⟨n, rfl⟩ := h; rfl
theorem Drew.below {w w' : World} (h : Drew w w') (B : Nat) : Below B w w' := by
  obtain ⟨n, rfl⟩ := h
  exact ⟨rfl, rfl, rfl, Nat.le_refl _, fun _ _ => rfl⟩
theorem Reads.ofDrew {w w' : World} {B n : Nat} {A : Option Addr} {xs : List Value} (h : Reads w B A n xs) (hd : Drew w w') : Reads w' B A n xs := h.keep fun p _ => hd.cell p

theorem size_list' (s : ByteArray) : s.data.toList.length = s.size := by rw [Array.length_toList]; rfl
theorem ret_int {k : IntKind} {a b : Int} (h : a = b) : Ending.returned (.int k a) = .returned (.int k b) := by rw [h]
theorem ret_bool {a b : Bool} (h : a = b) : Ending.returned (.bool a) = .returned (.bool b) := by rw [h]
theorem ret_str {a b : ByteArray} (h : a = b) : Ending.returned (.string a) = .returned (.string b) := by rw [h]
theorem hide {p : Prop} (h : p) : Hid p := h
theorem unhide {p : Prop} (h : Hid p) : p := h
end Go.Proofs.YtabfjmabiapgoaaDoor


/-
  PLAIN: the runs of a text and what they tell of joined places. Nothing here speaks of the program.
-/

namespace Go.Proofs.YtabfjmabiapgoaaDoor
set_option maxRecDepth 100000

theorem splitL_snoc_hit (c : UInt8) : ∀ l, splitL c (l ++ [c]) = splitL c l ++ [[]]
  | [] => by simp [splitL]
  | y :: r => by
    have ih := splitL_snoc_hit c r
    rw [List.cons_append, splitL, splitL, ih]
    by_cases h : y = c
    · rw [if_pos h, if_pos h]; rfl
    · rw [if_neg h, if_neg h]
      cases hs : splitL c r with
      | nil => exact absurd hs (splitL_ne c r)
      | cons a b => rfl
theorem splitL_snoc_miss {c x : UInt8} (hx : x ≠ c) : ∀ (l : List UInt8) (I : List (List UInt8)) (L : List UInt8), splitL c l = I ++ [L] → splitL c (l ++ [x]) = I ++ [L ++ [x]]
  | [], I, L, h => by
    have h2 : I ++ [L] = [[]] := by rw [← h]; rfl
    cases I with
    | nil => simp at h2; subst h2; simp [splitL, hx]
    | cons a b => simp at h2
  | y :: r, I, L, h => by
    rw [List.cons_append, splitL]
    rw [splitL] at h
    by_cases hy : y = c
    · rw [if_pos hy] at h ⊢
      cases I with
      | nil =>
        exfalso
        have := congrArg List.length h
        have h3 := splitL_ne c r
        cases hs : splitL c r with
        | nil => exact h3 hs
        | cons a b => rw [hs] at this; simp at this
      | cons a I2 =>
        rw [List.cons_append] at h
        injection h with h1 h2
        rw [splitL_snoc_miss hx r I2 L h2, ← h1]
        rfl
    · rw [if_neg hy] at h ⊢
      cases hs : splitL c r with
      | nil => exact absurd hs (splitL_ne c r)
      | cons a b =>
        rw [hs] at h
        dsimp only at h
        cases I with
        | nil =>
          rw [List.nil_append] at h
          injection h with h1 h2
          subst h2
          rw [splitL_snoc_miss hx r [] a hs]
          rw [← h1]; rfl
        | cons a2 I2 =>
          rw [List.cons_append] at h
          injection h with h1 h2
          have h4 : splitL c r = (a :: I2) ++ [L] := by rw [hs, h2]; rfl
          rw [splitL_snoc_miss hx r (a :: I2) L h4]
          dsimp only [List.cons_append]
          rw [← h1]
theorem splitL_last (c : UInt8) (l : List UInt8) : ∃ I L, splitL c l = I ++ [L] := by
  have h := splitL_ne c l
  exact ⟨(splitL c l).dropLast, (splitL c l).getLast h, (List.dropLast_concat_getLast h).symm⟩
theorem flat_split (c : UInt8) : ∀ l, (splitL c l).flatten = l.filter fun b => decide (b ≠ c)
  | [] => rfl
  | y :: r => by
    have ih := flat_split c r
    rw [splitL]
    by_cases h : y = c
    · rw [if_pos h, List.flatten_cons, ih, List.filter_cons_of_neg (by simp [h])]; rfl
    · rw [if_neg h, List.filter_cons_of_pos (by simp [h]), ← ih]
      cases hs : splitL c r with
      | nil => exact absurd hs (splitL_ne c r)
      | cons a b => rfl
/-- The places of all but the last of a run of L behind p. -/
def runJ (p L : Nat) : List Int := (List.range (L - 1)).map fun (i : Nat) => ((p + i : Nat) : Int) + 1
def runsJ : Nat → List Nat → List Int
  | _, [] => []
  | p, L :: r => runJ p L ++ runsJ (p + L) r
theorem runsJ_snoc : ∀ (Ls : List Nat) (p L : Nat), runsJ p (Ls ++ [L]) = runsJ p Ls ++ runJ (p + Ls.sum) L
  | [], p, L => by simp [runsJ]
  | a :: r, p, L => by
    rw [List.cons_append, runsJ, runsJ, runsJ_snoc r (p + a) L, List.append_assoc, List.sum_cons, Nat.add_assoc]
theorem runJ_zero (p : Nat) : runJ p 0 = [] := rfl
theorem runJ_one (p : Nat) : runJ p 1 = [] := rfl
theorem runJ_step {p L : Nat} (h : 0 < L) : runJ p (L + 1) = runJ p L ++ [((p + L : Nat) : Int)] := by
  obtain ⟨k, rfl⟩ : ∃ k, L = k + 1 := ⟨L - 1, by omega⟩
  unfold runJ
  rw [show k + 1 + 1 - 1 = k + 1 by omega, show k + 1 - 1 = k by omega, List.range_succ, List.map_append]
  congr 1
theorem runs_scan : ∀ (n : Nat) (l : List UInt8), l.length = n → ∀ I L, splitL 95 l = I ++ [L] →
    scanJ l l.length = runsJ 0 (I.map List.length ++ [L.length]) ∧ (scanD l).length = (I.map List.length).sum + L.length ∧ (L = [] ↔ ¬ (0 < l.length ∧ l[l.length - 1]?.getD 0 ≠ 95))
  | 0, l, hl, I, L, h => by
    obtain rfl := List.eq_nil_of_length_eq_zero hl
    have h2 : I ++ [L] = [[]] := by rw [← h]; rfl
    cases I with
    | nil => simp at h2; subst h2; simp [scanJ, runsJ, runJ, scanD]
    | cons a b => simp at h2
  | n + 1, l, hl, I, L, h => by
    obtain ⟨l2, x, rfl⟩ : ∃ l2 x, l = l2 ++ [x] := by
      have hne : l ≠ [] := fun e => by rw [e] at hl; simp at hl
      exact ⟨l.dropLast, l.getLast hne, (List.dropLast_concat_getLast hne).symm⟩
    rw [List.length_append, List.length_singleton] at hl
    obtain ⟨I2, L2, h2⟩ := splitL_last 95 l2
    obtain ⟨e1, e2, e3⟩ := runs_scan n l2 (by omega) I2 L2 h2
    have hx : (l2 ++ [x])[l2.length]?.getD 0 = x := by simp
    rw [List.length_append, List.length_singleton, scanJ, hx, scanJ_app l2 [x] l2.length (Nat.le_refl _)]
    by_cases hc : x = 95
    · subst hc
      rw [splitL_snoc_hit, h2] at h
      obtain ⟨h3, h4⟩ : I2 ++ [L2] = I ∧ ([] : List UInt8) = L := by
        have := List.append_inj' h rfl
        exact ⟨this.1, by injection this.2⟩
      subst h4
      subst h3
      refine ⟨?_, ?_, ?_⟩
      · rw [if_pos rfl, e1, runsJ_snoc ((I2 ++ [L2]).map List.length), List.length_nil, runJ_zero, List.append_nil, List.map_append]; rfl
      · unfold scanD at e2 ⊢
        rw [List.filter_append, List.length_append, e2]; simp
      · simp
    · rw [splitL_snoc_miss hc l2 I2 L2 h2] at h
      obtain ⟨h3, h4⟩ : I2 = I ∧ L2 ++ [x] = L := by
        have := List.append_inj' h rfl
        exact ⟨this.1, by injection this.2⟩
      subst h4
      subst h3
      refine ⟨?_, ?_, ?_⟩
      · rw [if_neg hc]
        by_cases hp : 0 < l2.length ∧ l2[l2.length - 1]?.getD 0 ≠ 95
        · have hL : L2 ≠ [] := fun e => (e3.1 e) hp
          have hL0 : 0 < L2.length := List.length_pos_iff.2 hL
          rw [if_pos ⟨hp.1, by rw [List.getElem?_append_left (by omega)]; exact hp.2⟩, e1, List.length_append, List.length_singleton, runsJ_snoc, runsJ_snoc, runJ_step hL0, List.append_assoc, List.take_append_of_le_length (Nat.le_refl _), List.take_length, e2, Nat.zero_add]
        · have hL : L2 = [] := e3.2 hp
          rw [if_neg (fun h => hp ⟨h.1, by have := h.2; rwa [List.getElem?_append_left (by have := h.1; omega)] at this⟩), e1, List.length_append, List.length_singleton, runsJ_snoc, runsJ_snoc, hL]
          rfl
      · unfold scanD at e2 ⊢
        rw [List.filter_append, List.length_append, e2, List.filter_cons_of_pos (by simp [hc]), List.length_append]
        simp; omega
      · simp [hc]
theorem joined_runs (s : List UInt8) : runsJ 0 ((splitL 95 s).map List.length) = scanJ s s.length := by
  obtain ⟨I, L, h⟩ := splitL_last 95 s
  rw [(runs_scan _ s rfl I L h).1, h, List.map_append]
  rfl
theorem sum_runs (s : List UInt8) : ((splitL 95 s).map List.length).sum = (scanD s).length := by
  unfold scanD
  rw [← flat_split, List.length_flatten]
/-- What a text tells. -/
def digB (s : ByteArray) : ByteArray := ⟨(scanD s.data.toList).toArray⟩
def parJ (s : ByteArray) : List Int := scanJ s.data.toList s.size
def parOK (s : ByteArray) : Bool := ppOK (digB s) && decide (ntext (ppR (digB s)) (parJ s) = s)
def parQ (s : ByteArray) : List Int := if parOK s then ppR (digB s) else []
def parN (s : ByteArray) : List Int := if parOK s then parJ s else []
theorem digB_size (s : ByteArray) : (digB s).size ≤ s.size := by
  have h1 := size_list' (digB s)
  have h2 := size_list' s
  have h3 : (digB s).data.toList = scanD s.data.toList := by unfold digB; simp
  have h4 : (scanD s.data.toList).length ≤ s.data.toList.length := List.length_filter_le _ _
  rw [h3] at h1
  omega
theorem join_flat (xs : List (List UInt8)) : Lib.join xs [] = xs.flatten := by
  cases xs with
  | nil => simp [Lib.join_nil]
  | cons x r =>
    rw [Lib.join_cons, List.flatten_cons]
    congr 1
    simp [Lib.joinTail]
theorem join_dig (s : ByteArray) : Lib.join ((pieces s 95).map (·.data.toList)) [] = scanD s.data.toList := by
  rw [join_flat, pieces_data, flat_split]; rfl
theorem pieces_lens (s : ByteArray) : (pieces s 95).map (·.size) = (splitL 95 s.data.toList).map List.length := by
  unfold pieces
  rw [List.map_map]
  refine List.map_congr_left fun l _ => ?_
  show l.toArray.size = l.length
  simp
theorem pieces_joined (s : ByteArray) : runsJ 0 ((pieces s 95).map (·.size)) = parJ s := by
  rw [pieces_lens, joined_runs]
  unfold parJ
  rw [size_list']
end Go.Proofs.YtabfjmabiapgoaaDoor
