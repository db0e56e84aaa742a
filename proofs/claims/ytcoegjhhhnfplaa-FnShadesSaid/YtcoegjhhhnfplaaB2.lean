/-
  Words and contracts that the laws lean on, bundled: OccM, SymG, OccN, NearM, MeshM, Mem, Ints, IntsS, AtS.
-/
import Derived.Test.YtcoegjhhhnfplaaB1
import Derived.Below
import Derived.Laws.OwnMore
import Derived.Deep.AppendLies
import Derived.Deep.Draws
import Derived.WalkKit
import Derived.Test.YtcoegjhhhnfplaaProg
import Derived.Deep.QuietTactic
import Derived.BigQuiet

/-
  PLAIN: lists that stand alike; occurrences of a permutation in a permutation. Nothing here speaks of the program.
-/

namespace Go.Proofs.Ytcoegjhhhnfplaa
set_option maxRecDepth 100000

theorem at0_zero (a : Int) (l : List Int) : at0 (a :: l) 0 = a := rfl
theorem at0_succ (a : Int) (l : List Int) (i : Nat) : at0 (a :: l) (i + 1) = at0 l i := rfl
theorem at0_mem {l : List Int} {i : Nat} (h : i < l.length) : at0 l i ∈ l := List.mem_of_getElem? (at0_some h)
theorem at0_app {a b : List Int} {i : Nat} (h : i < a.length) : at0 (a ++ b) i = at0 a i := at0_of (by rw [List.getElem?_append_left h]; exact at0_some h)
theorem at0_last (a : List Int) (x : Int) : at0 (a ++ [x]) a.length = x := at0_of (by simp)
theorem at0_take {l : List Int} {i k : Nat} (h : i < k) (hl : i < l.length) : at0 (l.take k) i = at0 l i := at0_of (by rw [List.getElem?_take, if_pos h]; exact at0_some hl)
theorem ext_at0 {a b : List Int} (hl : a.length = b.length) (h : ∀ i, i < a.length → at0 a i = at0 b i) : a = b := by
  refine List.ext_getElem? fun i => ?_
  by_cases hi : i < a.length
  · rw [at0_some hi, at0_some (by omega), h i hi]
  · rw [List.getElem?_eq_none (by omega), List.getElem?_eq_none (by omega)]

/-- Two lists stand alike: their numbers are in the same order. -/
def Alike (v u : List Int) : Prop := v.length = u.length ∧ ∀ i j, i < v.length → j < v.length → (at0 v i < at0 v j ↔ at0 u i < at0 u j)
theorem cnt_pt : ∀ {v u : List Int} {x y : Int}, v.length = u.length → (∀ i, i < v.length → (at0 v i < x ↔ at0 u i < y)) → cnt v x = cnt u y
  | [], [], _, _, _, _ => rfl
  | [], _ :: _, _, _, h, _ => by simp at h
  | _ :: _, [], _, _, h, _ => by simp at h
  | a :: v, b :: u, x, y, h, hp => by
    have h0 := hp 0 (by simp)
    rw [at0_zero, at0_zero] at h0
    have ih := cnt_pt (v := v) (u := u) (x := x) (y := y) (by simpa using h) fun i hi => by
      have := hp (i + 1) (by simp; omega)
      rwa [at0_succ, at0_succ] at this
    rw [cnt_cons, cnt_cons, ih]
    by_cases hx : a < x
    · rw [if_pos hx, if_pos (h0.1 hx)]
    · rw [if_neg hx, if_neg (fun h => hx (h0.2 h))]
theorem patL_at0 {l : List Int} {i : Nat} (h : i < l.length) : at0 (patL l) i = 1 + (cnt l (at0 l i) : Int) := at0_of (patL_at (at0_some h))
theorem patL_alike {v u : List Int} (h : Alike v u) : patL v = patL u := by
  refine ext_at0 (by rw [patL_length, patL_length]; exact h.1) fun i hi => ?_
  rw [patL_length] at hi
  have hl := h.1
  rw [patL_at0 hi, patL_at0 (by omega), cnt_pt hl fun j hj => h.2 j i hj hi]
theorem cnt_iff {l : List Int} {a b : Int} (ha : a ∈ l) : a < b ↔ cnt l a < cnt l b := by
  constructor
  · intro h; have := cnt_lt ha h; omega
  · intro h
    by_cases hb : b ≤ a
    · have := cnt_mono l hb; omega
    · omega
theorem alike_patL {v u : List Int} (h : patL v = patL u) : Alike v u := by
  have hl : v.length = u.length := by have := congrArg List.length h; rwa [patL_length, patL_length] at this
  refine ⟨hl, fun i j hi hj => ?_⟩
  have e : ∀ k, k < v.length → cnt v (at0 v k) = cnt u (at0 u k) := fun k hk => by
    have h1 : at0 (patL v) k = at0 (patL u) k := by rw [h]
    rw [patL_at0 hk, patL_at0 (by omega)] at h1
    omega
  rw [cnt_iff (at0_mem hi), cnt_iff (l := u) (at0_mem (by omega)), e i hi, e j hj]
theorem patL_self {p : List Int} (h : isP p = true) : patL p = p := by
  refine ext_at0 (patL_length p) fun i hi => ?_
  rw [patL_length] at hi
  rw [patL_at0 hi, cnt_isP h (at0_mem hi)]
  omega
theorem Alike.symm {v u : List Int} (h : Alike v u) : Alike u v := ⟨h.1.symm, fun i j hi hj => (h.2 i j (by rw [h.1]; exact hi) (by rw [h.1]; exact hj)).symm⟩
theorem Alike.trans {a b c : List Int} (h : Alike a b) (k : Alike b c) : Alike a c := ⟨h.1.trans k.1, fun i j hi hj => (h.2 i j hi hj).trans (k.2 i j (by rw [← h.1]; exact hi) (by rw [← h.1]; exact hj))⟩
theorem alike_pat (v : List Int) : Alike (patL v) v := ⟨patL_length v, fun i j hi hj => by
  rw [patL_length] at hi hj
  rw [patL_at0 hi, patL_at0 hj, cnt_iff (at0_mem hi)]
  omega⟩
theorem pat_eq_iff {v q : List Int} (hq : isP q = true) : patL v = q ↔ Alike v q := by
  constructor
  · intro h; exact alike_patL (by rw [h, patL_self hq])
  · intro h; rw [patL_alike h, patL_self hq]
theorem isP_ne {p : List Int} (h : isP p = true) {i j : Nat} (hi : i < p.length) (hj : j < p.length) (hne : i ≠ j) : at0 p i ≠ at0 p j := fun e => hne (isP_same h (at0_some hi) (by rw [e]; exact at0_some hj))

/-! occurrences -/
/-- The numbers at places. -/
def nums (p pl : List Int) : List Int := pl.map fun x => at0 p (x.toNat - 1)
theorem nums_length (p pl : List Int) : (nums p pl).length = pl.length := by simp [nums]
theorem nums_at0 {p pl : List Int} {i : Nat} (h : i < pl.length) : at0 (nums p pl) i = at0 p ((at0 pl i).toNat - 1) := at0_of (by unfold nums; rw [List.getElem?_map, at0_some h]; rfl)
theorem nums_snoc (p pl : List Int) (x : Int) : nums p (pl ++ [x]) = nums p pl ++ [at0 p (x.toNat - 1)] := by simp [nums]
theorem nums_take (p pl : List Int) (k : Nat) : nums p (pl.take k) = (nums p pl).take k := by simp [nums, List.map_take]
def PlOK (n : Nat) (pl : List Int) : Prop := (∀ x ∈ pl, 1 ≤ x ∧ x ≤ (n : Int)) ∧ pl.Pairwise (· < ·)
instance (n : Nat) (pl : List Int) : Decidable (PlOK n pl) := inferInstanceAs (Decidable (_ ∧ _))
theorem PlOK.nil (n : Nat) : PlOK n [] := ⟨fun x hx => by simp at hx, List.Pairwise.nil⟩
theorem PlOK.take {n : Nat} {pl : List Int} (h : PlOK n pl) (k : Nat) : PlOK n (pl.take k) := ⟨fun x hx => h.1 x (List.mem_of_mem_take hx), h.2.sublist (List.take_sublist _ _)⟩
theorem PlOK.mono {n : Nat} {pl : List Int} (h : PlOK n pl) {i j : Nat} (hij : i < j) (hj : j < pl.length) : at0 pl i < at0 pl j := by
  have := List.pairwise_iff_getElem.1 h.2 i j (by omega) hj hij
  rw [at0_of (List.getElem?_eq_getElem (show i < pl.length by omega)), at0_of (List.getElem?_eq_getElem hj)]
  exact this
theorem PlOK.rng {n : Nat} {pl : List Int} (h : PlOK n pl) {i : Nat} (hi : i < pl.length) : 1 ≤ at0 pl i ∧ at0 pl i ≤ (n : Int) := h.1 _ (at0_mem hi)
theorem nums_ne {p pl : List Int} (hp : isP p = true) (h : PlOK p.length pl) {i j : Nat} (hi : i < pl.length) (hj : j < pl.length) (hne : i ≠ j) : at0 (nums p pl) i ≠ at0 (nums p pl) j := by
  have r1 := h.rng hi
  have r2 := h.rng hj
  have hm : at0 pl i ≠ at0 pl j := by
    rcases Nat.lt_or_ge i j with h1 | h1
    · have := h.mono h1 hj; omega
    · have := h.mono (show j < i by omega) hi; omega
  rw [nums_at0 hi, nums_at0 hj]
  exact isP_ne hp (by omega) (by omega) (by omega)
/-- The last one of some places agrees with a pattern. -/
def fitL (p q pl : List Int) : Bool := (List.range (pl.length - 1)).all fun k => decide (at0 q k < at0 q (pl.length - 1)) == decide (at0 (nums p pl) k < at0 (nums p pl) (pl.length - 1))
theorem fitL_iff {p q pl : List Int} : fitL p q pl = true ↔ ∀ k, k < pl.length - 1 → (at0 q k < at0 q (pl.length - 1) ↔ at0 (nums p pl) k < at0 (nums p pl) (pl.length - 1)) := by
  unfold fitL
  rw [List.all_eq_true]
  simp only [List.mem_range, beq_iff_eq, decide_eq_decide]
theorem fitL_yes {p q pl : List Int} (h : ∀ k, k < pl.length - 1 → decide (at0 q k < at0 q (pl.length - 1)) = decide (at0 (nums p pl) k < at0 (nums p pl) (pl.length - 1))) : fitL p q pl = true := by
  rw [fitL_iff]
  intro k hk
  exact decide_eq_decide.1 (h k hk)
theorem fitL_no {p q pl : List Int} {k : Nat} (hk : k < pl.length - 1) (h : decide (at0 q k < at0 q (pl.length - 1)) ≠ decide (at0 (nums p pl) k < at0 (nums p pl) (pl.length - 1))) : fitL p q pl = false := by
  cases hf : fitL p q pl with
  | false => rfl
  | true => exact absurd (decide_eq_decide.2 (fitL_iff.1 hf k hk)) h
theorem fits_alike {p q pl : List Int} (hp : isP p = true) (hq : isP q = true) (hl : pl.length = q.length) (h : PlOK p.length pl) : (∀ k, k < pl.length → fitL p q (pl.take (k + 1)) = true) ↔ Alike (nums p pl) q := by
  have hlt : ∀ k, k < pl.length → (pl.take (k + 1)).length = k + 1 := fun k hk => by rw [List.length_take]; omega
  have key : ∀ k, k < pl.length → (fitL p q (pl.take (k + 1)) = true ↔ ∀ i, i < k → (at0 q i < at0 q k ↔ at0 (nums p pl) i < at0 (nums p pl) k)) := fun k hk => by
    rw [fitL_iff, hlt k hk, Nat.add_sub_cancel, nums_take]
    have hpl := nums_length p pl
    constructor
    · intro h i hi
      have := h i hi
      rwa [at0_take (by omega) (by omega), at0_take (by omega) (by omega)] at this
    · intro h i hi
      rw [at0_take (by omega) (by omega), at0_take (by omega) (by omega)]
      exact h i hi
  constructor
  · intro hf
    refine ⟨by rw [nums_length]; exact hl, fun i j hi hj => ?_⟩
    rw [nums_length] at hi hj
    rcases Nat.lt_trichotomy i j with h1 | h1 | h1
    · exact ((key j hj).1 (hf j hj) i h1).symm
    · subst h1; exact ⟨fun h => by omega, fun h => by omega⟩
    · have h2 := (key i hi).1 (hf i hi) j h1
      have n1 := nums_ne hp h hi hj (by omega)
      have n2 := isP_ne hq (i := i) (j := j) (by omega) (by omega) (by omega)
      constructor
      · intro h3; by_cases h4 : at0 q j < at0 q i
        · have := h2.1 h4; omega
        · omega
      · intro h3; by_cases h4 : at0 (nums p pl) j < at0 (nums p pl) i
        · have := h2.2 h4; omega
        · omega
  · intro ha k hk
    rw [key k hk]
    intro i hi
    exact (ha.2 i k (by rw [nums_length]; omega) (by rw [nums_length]; omega)).symm

/-- The last place, or none. -/
def lastP (head : List Int) : Nat := (head.getLast?.getD 0).toNat
theorem lastP_nil : lastP [] = 0 := rfl
theorem lastP_snoc (head : List Int) (x : Int) : lastP (head ++ [x]) = x.toNat := by simp [lastP]
theorem lastP_at {head : List Int} (h : 0 < head.length) : lastP head = (at0 head (head.length - 1)).toNat := by
  unfold lastP
  rw [List.getLast?_eq_getElem?, at0_some (by omega)]; rfl
theorem lastP_le {n : Nat} {head : List Int} (h : PlOK n head) : lastP head ≤ n := by
  cases head with
  | nil => rw [lastP_nil]; omega
  | cons a l =>
    rw [lastP_at (by simp)]
    have := h.rng (i := (a :: l).length - 1) (by simp)
    omega
theorem PlOK.snoc {n : Nat} {head : List Int} {x : Int} : PlOK n (head ++ [x]) ↔ PlOK n head ∧ (lastP head : Int) < x ∧ x ≤ (n : Int) := by
  unfold PlOK
  rw [List.pairwise_append]
  constructor
  · rintro ⟨h1, h2, _, h3⟩
    refine ⟨⟨fun y hy => h1 y (by simp [hy]), h2⟩, ?_, (h1 x (by simp)).2⟩
    by_cases h0 : 0 < head.length
    · have h4 := h3 (at0 head (head.length - 1)) (at0_mem (by omega)) x (by simp)
      have h5 := h1 x (by simp)
      rw [lastP_at h0]; omega
    · have : head = [] := List.eq_nil_of_length_eq_zero (by omega)
      subst this
      have h5 := h1 x (by simp)
      rw [lastP_nil]; omega
  · rintro ⟨h1, h2, h3⟩
    refine ⟨fun y hy => ?_, h1.2, by simp, fun a ha b hb => ?_⟩
    · rcases List.mem_append.1 hy with h | h
      · exact h1.1 y h
      · simp at h; subst h; omega
    · simp at hb; subst hb
      have hr := h1.1 a ha
      obtain ⟨i, hi, rfl⟩ := List.getElem_of_mem ha
      have h0 : 0 < head.length := by omega
      have e : at0 head i = head[i] := at0_of (List.getElem?_eq_getElem hi)
      have : at0 head i ≤ at0 head (head.length - 1) := by
        by_cases hh : i = head.length - 1
        · rw [← hh]; exact Int.le_refl _
        · have := PlOK.mono (n := n) h1 (i := i) (j := head.length - 1) (by omega) (by omega); omega
      rw [lastP_at h0] at h2
      have hr2 := PlOK.rng (n := n) h1 (i := head.length - 1) (by omega)
      omega

/-- The occurrences that begin with head and have m places more. -/
def extL (p q : List Int) : Nat → List Int → List (List Int)
  | 0, head => [head]
  | m + 1, head => (List.range (p.length - lastP head)).flatMap fun i => if fitL p q (head ++ [((lastP head + i + 1 : Nat) : Int)]) then extL p q m (head ++ [((lastP head + i + 1 : Nat) : Int)]) else []
/-- .. of the first j of the next places. -/
def extK (p q : List Int) (m : Nat) (head : List Int) (j : Nat) : List (List Int) := (List.range j).flatMap fun i => if fitL p q (head ++ [((lastP head + i + 1 : Nat) : Int)]) then extL p q m (head ++ [((lastP head + i + 1 : Nat) : Int)]) else []
theorem extK_all (p q : List Int) (m : Nat) (head : List Int) : extK p q m head (p.length - lastP head) = extL p q (m + 1) head := rfl
theorem extK_zero (p q : List Int) (m : Nat) (head : List Int) : extK p q m head 0 = [] := rfl
theorem extK_yes {p q : List Int} {m : Nat} {head : List Int} {j : Nat} (h : fitL p q (head ++ [((lastP head + j + 1 : Nat) : Int)]) = true) : extK p q m head (j + 1) = extK p q m head j ++ extL p q m (head ++ [((lastP head + j + 1 : Nat) : Int)]) := by
  unfold extK
  rw [List.range_succ, List.flatMap_append, List.flatMap_cons, List.flatMap_nil, List.append_nil, if_pos h]
theorem extK_no {p q : List Int} {m : Nat} {head : List Int} {j : Nat} (h : fitL p q (head ++ [((lastP head + j + 1 : Nat) : Int)]) = false) : extK p q m head (j + 1) = extK p q m head j := by
  unfold extK
  rw [List.range_succ, List.flatMap_append, List.flatMap_cons, List.flatMap_nil, List.append_nil, if_neg (by rw [h]; exact Bool.false_ne_true), List.append_nil]
theorem mem_extL {p q : List Int} : ∀ (m : Nat) (head pl : List Int), PlOK p.length head → (pl ∈ extL p q m head ↔ ∃ tl, pl = head ++ tl ∧ tl.length = m ∧ PlOK p.length pl ∧ ∀ k, head.length ≤ k → k < pl.length → fitL p q (pl.take (k + 1)) = true)
  | 0, head, pl, h => by
    rw [extL, List.mem_singleton]
    constructor
    · rintro rfl
      exact ⟨[], by simp, rfl, h, fun k h1 h2 => by omega⟩
    · rintro ⟨tl, rfl, h1, _⟩
      rw [List.eq_nil_of_length_eq_zero h1, List.append_nil]
  | m + 1, head, pl, h => by
    have hle := lastP_le h
    rw [extL, List.mem_flatMap]
    constructor
    · rintro ⟨i, hi, hm⟩
      rw [List.mem_range] at hi
      by_cases hf : fitL p q (head ++ [((lastP head + i + 1 : Nat) : Int)]) = true
      · rw [if_pos hf] at hm
        have hh : PlOK p.length (head ++ [((lastP head + i + 1 : Nat) : Int)]) := PlOK.snoc.2 ⟨h, by omega, by omega⟩
        obtain ⟨tl, rfl, h1, h2, h3⟩ := (mem_extL m _ pl hh).1 hm
        refine ⟨((lastP head + i + 1 : Nat) : Int) :: tl, by rw [List.append_assoc]; rfl, by simp [h1], h2, fun k hk1 hk2 => ?_⟩
        by_cases hk : k = head.length
        · subst hk
          rw [List.take_append_of_le_length (by simp), List.take_of_length_le (by simp)]
          exact hf
        · exact h3 k (by simp; omega) hk2
      · rw [if_neg hf] at hm; cases hm
    · rintro ⟨tl, rfl, h1, h2, h3⟩
      match tl, h1 with
      | x :: tl, h1 =>
        have hx : PlOK p.length (head ++ [x]) := by
          have := h2.take (head.length + 1)
          rwa [show head ++ x :: tl = head ++ [x] ++ tl by simp, List.take_append_of_le_length (by simp), List.take_of_length_le (by simp)] at this
        obtain ⟨_, hx1, hx2⟩ := PlOK.snoc.1 hx
        have hxe : ((lastP head + (x.toNat - lastP head - 1) + 1 : Nat) : Int) = x := by omega
        refine ⟨x.toNat - lastP head - 1, List.mem_range.2 (by omega), ?_⟩
        rw [hxe]
        have hf := h3 head.length (Nat.le_refl _) (by simp)
        rw [show head ++ x :: tl = head ++ [x] ++ tl by simp, List.take_append_of_le_length (by simp), List.take_of_length_le (by simp)] at hf
        rw [if_pos hf, mem_extL m _ _ hx]
        exact ⟨tl, by simp, by simpa using h1, h2, fun k hk1 hk2 => h3 k (by simp at hk1; omega) hk2⟩
theorem extL_len {p q : List Int} : ∀ (m : Nat) (head pl : List Int), pl ∈ extL p q m head → pl.length = head.length + m
  | 0, head, pl, h => by rw [extL, List.mem_singleton] at h; subst h; rfl
  | m + 1, head, pl, h => by
    rw [extL, List.mem_flatMap] at h
    obtain ⟨i, _, h⟩ := h
    by_cases hf : fitL p q (head ++ [((lastP head + i + 1 : Nat) : Int)]) = true
    · rw [if_pos hf] at h
      have := extL_len m _ pl h
      simp at this; omega
    · rw [if_neg hf] at h; cases h
theorem extL_pre {p q : List Int} : ∀ (m : Nat) (head pl : List Int), pl ∈ extL p q m head → ∃ tl, pl = head ++ tl
  | 0, head, pl, h => by rw [extL, List.mem_singleton] at h; subst h; exact ⟨[], by simp⟩
  | m + 1, head, pl, h => by
    rw [extL, List.mem_flatMap] at h
    obtain ⟨i, _, h⟩ := h
    by_cases hf : fitL p q (head ++ [((lastP head + i + 1 : Nat) : Int)]) = true
    · rw [if_pos hf] at h
      obtain ⟨tl, rfl⟩ := extL_pre m _ pl h
      exact ⟨_ :: tl, by simp; rfl⟩
    · rw [if_neg hf] at h; cases h
theorem lexL_app (h : List Int) (a b : List Int) : lexL (h ++ a) (h ++ b) = lexL a b := by
  induction h with
  | nil => rfl
  | cons x h ih => rw [List.cons_append, List.cons_append, lexL, if_pos rfl, ih]
theorem extL_asc {p q : List Int} : ∀ (m : Nat) (head : List Int), Asc (extL p q m head)
  | 0, head => by rw [extL]; exact List.pairwise_singleton _ _
  | m + 1, head => by
    rw [extL]
    unfold Asc
    rw [List.pairwise_flatMap]
    constructor
    · intro i _
      split
      · exact extL_asc m _
      · exact List.Pairwise.nil
    · refine List.Pairwise.imp ?_ List.pairwise_lt_range
      intro i j hij x hx y hy
      split at hx
      · split at hy
        · have l1 := extL_len m _ x hx
          have l2 := extL_len m _ y hy
          obtain ⟨t, rfl⟩ := extL_pre m _ x hx
          obtain ⟨s, rfl⟩ := extL_pre m _ y hy
          simp only [List.length_append, List.length_singleton] at l1 l2
          rw [befL_eq (by simp; omega), List.append_assoc, List.append_assoc, lexL_app, List.singleton_append, List.singleton_append, lexL, if_neg (by omega)]
          simp; omega
        · cases hy
      · cases hx
/-- The occurrences of q in p. -/
def occR (p q : List Int) : List (List Int) := if isP p && isP q then extL p q q.length [] else []
theorem occR_yes {p q : List Int} (hp : isP p = true) (hq : isP q = true) : occR p q = extL p q q.length [] := by unfold occR; rw [if_pos (by simp [hp, hq])]
theorem occR_no {p q : List Int} (h : isP p = false ∨ isP q = false) : occR p q = [] := by
  unfold occR
  rw [if_neg (by rcases h with h | h <;> simp [h])]
def isOcc (p q pl : List Int) : Bool := isP p && (isP q && (decide (pl.length = q.length) && (decide (PlOK p.length pl) && decide (patL (nums p pl) = q))))
theorem isOcc_iff {p q pl : List Int} : isOcc p q pl = true ↔ isP p = true ∧ isP q = true ∧ pl.length = q.length ∧ PlOK p.length pl ∧ patL (nums p pl) = q := by
  unfold isOcc
  simp only [Bool.and_eq_true, decide_eq_true_eq]
theorem mem_occ {p q pl : List Int} : pl ∈ occR p q ↔ isOcc p q pl = true := by
  rw [isOcc_iff]
  cases hp : isP p with
  | false => rw [occR_no (.inl hp)]; simp
  | true =>
    cases hq : isP q with
    | false => rw [occR_no (.inr hq)]; simp
    | true =>
      rw [occR_yes hp hq, mem_extL q.length [] pl (PlOK.nil _)]
      constructor
      · rintro ⟨tl, rfl, h1, h2, h3⟩
        exact ⟨rfl, rfl, h1, h2, (pat_eq_iff hq).2 ((fits_alike hp hq h1 h2).1 fun k hk => h3 k (Nat.zero_le _) hk)⟩
      · rintro ⟨_, _, h1, h2, h3⟩
        exact ⟨pl, by simp, h1, h2, fun k _ hk => (fits_alike hp hq h1 h2).2 ((pat_eq_iff hq).1 h3) k hk⟩
theorem occ_asc (p q : List Int) : Asc (occR p q) := by
  unfold occR
  split
  · exact extL_asc _ _
  · exact List.Pairwise.nil
end Go.Proofs.Ytcoegjhhhnfplaa


/-
  PLAIN: the eight symmetries are a group of eight; classes are the same for their elements; their sizes divide eight.
-/

namespace Go.Proofs.Ytcoegjhhhnfplaa
set_option maxRecDepth 100000

def invL (p : List Int) : List Int := invFill p p.length
theorem invL_length (p : List Int) : (invL p).length = p.length := invFill_length p _
theorem invL_isP {p : List Int} (h : isP p = true) : isP (invL p) = true := isP_inv h
theorem invL_at {p : List Int} (h : isP p = true) {i : Nat} {z : Int} (hi : i < p.length) (hz : p[i]? = some z) : (invL p)[z.toNat - 1]? = some ((i : Int) + 1) :=
  invFill_at (isP_true.1 h).2.1 (isP_true.1 h).2.2 p.length i z hi (Nat.le_refl _) hz
/-- What is at a place of the inverse. -/
theorem invL_get {p : List Int} (h : isP p = true) {j : Nat} (hj : j < p.length) : ∃ i, i < p.length ∧ p[i]? = some ((j : Int) + 1) ∧ (invL p)[j]? = some ((i : Int) + 1) := by
  have hin := (nodup_iff_all (isP_true.1 h).2.1).1 (isP_true.1 h).2.2 j hj
  obtain ⟨i, hi, he⟩ := List.getElem_of_mem hin
  have h1 : p[i]? = some ((j : Int) + 1) := by rw [List.getElem?_eq_getElem hi, he]
  refine ⟨i, hi, h1, ?_⟩
  have := invL_at h hi h1
  rwa [show ((j : Int) + 1).toNat - 1 = j by omega] at this
/-- A list is the inverse if it has the inverse's places. -/
theorem invL_of {p q : List Int} (h : isP p = true) (hl : q.length = p.length) (hq : ∀ (i : Nat) (z : Int), p[i]? = some z → q[z.toNat - 1]? = some ((i : Int) + 1)) : invL p = q := by
  refine List.ext_getElem? fun j => ?_
  by_cases hj : j < p.length
  · obtain ⟨i, hi, h1, h2⟩ := invL_get h hj
    have := hq i _ h1
    rw [show ((j : Int) + 1).toNat - 1 = j by omega] at this
    rw [h2, this]
  · rw [List.getElem?_eq_none (by rw [invL_length]; omega), List.getElem?_eq_none (by omega)]
theorem inv_inv {p : List Int} (h : isP p = true) : invL (invL p) = p := by
  refine invL_of (invL_isP h) (invL_length p).symm fun j z hz => ?_
  have hj : j < p.length := by have := (List.getElem?_eq_some_iff.1 hz).1; rwa [invL_length] at this
  obtain ⟨i, hi, h1, h2⟩ := invL_get h hj
  rw [h2] at hz
  obtain rfl := Option.some.inj hz
  rw [show ((i : Int) + 1).toNat - 1 = i by omega, h1]
theorem inv_rev {p : List Int} (h : isP p = true) : invL p.reverse = cplL (invL p) := by
  refine invL_of (isP_rev h) (by rw [cplL_length, invL_length, List.length_reverse]) fun i z hz => ?_
  have hi : i < p.length := by have := (List.getElem?_eq_some_iff.1 hz).1; rwa [List.length_reverse] at this
  rw [List.getElem?_reverse hi] at hz
  have h1 := invL_at h (by omega) hz
  rw [cplL_at h1, invL_length]
  congr 1
  omega
theorem inv_cpl {p : List Int} (h : isP p = true) : invL (cplL p) = (invL p).reverse := by
  refine invL_of (isP_cpl h) (by rw [cplL_length, List.length_reverse, invL_length]) fun i z hz => ?_
  have hi : i < p.length := by have := (List.getElem?_eq_some_iff.1 hz).1; rwa [cplL_length] at this
  have hp := at0_some hi
  rw [cplL_at hp] at hz
  obtain rfl := Option.some.inj hz
  have hr := isP_range h hp
  have h1 := invL_at h hi hp
  rw [List.getElem?_reverse (by rw [invL_length]; omega), invL_length]
  rw [show p.length - 1 - (((p.length : Int) + 1 - at0 p i).toNat - 1) = (at0 p i).toNat - 1 by omega]
  exact h1
theorem cpl_rev (p : List Int) : cplL p.reverse = (cplL p).reverse := by
  unfold cplL
  rw [List.length_reverse, List.map_reverse]

/-- The steps on the numbers of the symmetries. -/
def sI (k : Nat) : Nat := (if 4 ≤ k then 2 else 0) + (if k / 2 % 2 = 1 then 4 else 0) + (if k % 2 = 1 then 0 else 1)
def sR (k : Nat) : Nat := if k / 2 % 2 = 1 then k - 2 else k + 2
def sC (k : Nat) : Nat := if 4 ≤ k then k - 4 else k + 4
def mulS (k j : Nat) : Nat :=
  let a := if j % 2 = 1 then sI k else k
  let b := if j / 2 % 2 = 1 then sR a else a
  if 4 ≤ j then sC b else b
theorem mulS_lt : ∀ k, k < 8 → ∀ j, j < 8 → mulS k j < 8 := by decide
theorem sym_list (p : List Int) : symL p 0 = p ∧ symL p 1 = invL p ∧ symL p 2 = p.reverse ∧ symL p 3 = (invL p).reverse ∧ symL p 4 = cplL p ∧ symL p 5 = cplL (invL p) ∧ symL p 6 = cplL p.reverse ∧ symL p 7 = cplL (invL p).reverse := by
  refine ⟨?_, ?_, ?_, ?_, ?_, ?_, ?_, ?_⟩ <;> simp [symL, sym2, sym1, invL]
theorem inv_sym {p : List Int} (h : isP p = true) : ∀ k, k < 8 → invL (symL p k) = symL p (sI k) := by
  obtain ⟨e0, e1, e2, e3, e4, e5, e6, e7⟩ := sym_list p
  have hi := invL_isP h
  intro k hk
  rcases (show k = 0 ∨ k = 1 ∨ k = 2 ∨ k = 3 ∨ k = 4 ∨ k = 5 ∨ k = 6 ∨ k = 7 by omega) with rfl | rfl | rfl | rfl | rfl | rfl | rfl | rfl
  · rw [e0, show sI 0 = 1 from rfl, e1]
  · rw [e1, show sI 1 = 0 from rfl, e0, inv_inv h]
  · rw [e2, show sI 2 = 5 from rfl, e5, inv_rev h]
  · rw [e3, show sI 3 = 4 from rfl, e4, inv_rev hi, inv_inv h]
  · rw [e4, show sI 4 = 3 from rfl, e3, inv_cpl h]
  · rw [e5, show sI 5 = 2 from rfl, e2, inv_cpl hi, inv_inv h]
  · rw [e6, show sI 6 = 7 from rfl, e7, inv_cpl (isP_rev h), inv_rev h, cpl_rev]
  · rw [e7, show sI 7 = 6 from rfl, e6, inv_cpl (isP_rev hi), inv_rev hi, inv_inv h, cpl_rev]
theorem rev_sym (p : List Int) : ∀ k, k < 8 → (symL p k).reverse = symL p (sR k) := by
  obtain ⟨e0, e1, e2, e3, e4, e5, e6, e7⟩ := sym_list p
  intro k hk
  rcases (show k = 0 ∨ k = 1 ∨ k = 2 ∨ k = 3 ∨ k = 4 ∨ k = 5 ∨ k = 6 ∨ k = 7 by omega) with rfl | rfl | rfl | rfl | rfl | rfl | rfl | rfl
  · rw [e0, show sR 0 = 2 from rfl, e2]
  · rw [e1, show sR 1 = 3 from rfl, e3]
  · rw [e2, show sR 2 = 0 from rfl, e0, List.reverse_reverse]
  · rw [e3, show sR 3 = 1 from rfl, e1, List.reverse_reverse]
  · rw [e4, show sR 4 = 6 from rfl, e6, cpl_rev]
  · rw [e5, show sR 5 = 7 from rfl, e7, cpl_rev]
  · rw [e6, show sR 6 = 4 from rfl, e4, cpl_rev, List.reverse_reverse]
  · rw [e7, show sR 7 = 5 from rfl, e5, cpl_rev, List.reverse_reverse]
theorem cpl_sym (p : List Int) : ∀ k, k < 8 → cplL (symL p k) = symL p (sC k) := by
  obtain ⟨e0, e1, e2, e3, e4, e5, e6, e7⟩ := sym_list p
  intro k hk
  rcases (show k = 0 ∨ k = 1 ∨ k = 2 ∨ k = 3 ∨ k = 4 ∨ k = 5 ∨ k = 6 ∨ k = 7 by omega) with rfl | rfl | rfl | rfl | rfl | rfl | rfl | rfl
  · rw [e0, show sC 0 = 4 from rfl, e4]
  · rw [e1, show sC 1 = 5 from rfl, e5]
  · rw [e2, show sC 2 = 6 from rfl, e6]
  · rw [e3, show sC 3 = 7 from rfl, e7]
  · rw [e4, show sC 4 = 0 from rfl, e0, cpl_cpl]
  · rw [e5, show sC 5 = 1 from rfl, e1, cpl_cpl]
  · rw [e6, show sC 6 = 2 from rfl, e2, cpl_cpl]
  · rw [e7, show sC 7 = 3 from rfl, e3, cpl_cpl]
theorem sI_lt : ∀ k, k < 8 → sI k < 8 := by decide
theorem sR_lt : ∀ k, k < 8 → sR k < 8 := by decide
/-- A symmetry of a symmetry. -/
theorem sym_sym {p : List Int} (h : isP p = true) {k j : Nat} (hk : k < 8) (_hj : j < 8) : symL (symL p k) j = symL p (mulS k j) := by
  have e1 : sym1 (symL p k) j = symL p (if j % 2 = 1 then sI k else k) := by
    unfold sym1
    split
    · exact inv_sym h k hk
    · rfl
  have l1 : (if j % 2 = 1 then sI k else k) < 8 := by
    split
    · exact sI_lt k hk
    · exact hk
  have e2 : sym2 (symL p k) j = symL p (if j / 2 % 2 = 1 then sR (if j % 2 = 1 then sI k else k) else (if j % 2 = 1 then sI k else k)) := by
    unfold sym2
    rw [e1]
    by_cases hb : j / 2 % 2 = 1
    · rw [if_pos hb, if_pos hb]; exact rev_sym p _ l1
    · rw [if_neg hb, if_neg hb]
  have l2 : (if j / 2 % 2 = 1 then sR (if j % 2 = 1 then sI k else k) else (if j % 2 = 1 then sI k else k)) < 8 := by
    by_cases hb : j / 2 % 2 = 1
    · rw [if_pos hb]; exact sR_lt _ l1
    · rw [if_neg hb]; exact l1
  have e3 : symL (symL p k) j = if 4 ≤ j then cplL (sym2 (symL p k) j) else sym2 (symL p k) j := rfl
  rw [e3, e2]
  by_cases hb : 4 ≤ j
  · rw [if_pos hb, cpl_sym p _ l2]
    congr 1
    simp only [mulS]
    rw [if_pos hb]
  · rw [if_neg hb]
    congr 1
    simp only [mulS]
    rw [if_neg hb]
theorem mulS_onto : ∀ k, k < 8 → ∀ i, i < 8 → ∃ j, j < 8 ∧ mulS k j = i := by decide
theorem mem_imgs {p x : List Int} : x ∈ imgs p 8 ↔ ∃ j, j < 8 ∧ symL p j = x := by
  unfold imgs
  simp [List.mem_map, List.mem_range]
theorem mem_cls {p x : List Int} (h : isP p = true) : x ∈ clsR p ↔ ∃ j, j < 8 ∧ symL p j = x := by
  rw [clsR_yes h, ordR_yes (imgs_all h 8), ordL_mem, List.take_length, mem_imgs]
theorem asc_cls {p : List Int} (h : isP p = true) : Asc (clsR p) := by
  rw [clsR_yes h, ordR_yes (imgs_all h 8)]
  exact ordL_asc _ _
theorem cls_sym {p : List Int} (h : isP p = true) {k : Nat} (hk : k < 8) : clsR (symL p k) = clsR p := by
  refine asc_unique (asc_cls (symL_isP h k)) (asc_cls h) fun x => ?_
  rw [mem_cls (symL_isP h k), mem_cls h]
  constructor
  · rintro ⟨j, hj, rfl⟩
    exact ⟨mulS k j, mulS_lt k hk j hj, (sym_sym h hk hj).symm⟩
  · rintro ⟨i, hi, rfl⟩
    obtain ⟨j, hj, e⟩ := mulS_onto k hk i hi
    exact ⟨j, hj, by rw [sym_sym h hk hj, e]⟩
/-- The number of the inverse symmetry. -/
def invS (k : Nat) : Nat := if k = 3 then 5 else if k = 5 then 3 else k
theorem mulS_inv : ∀ k, k < 8 → mulS k (invS k) = 0 := by decide
theorem invS_lt : ∀ k, k < 8 → invS k < 8 := by decide
theorem mulS_back : ∀ k, k < 8 → ∀ j, j < 8 → mulS (mulS j (invS k)) k = j := by decide
theorem mulS_zero : ∀ k, k < 8 → mulS 0 k = k := by decide
/-- Two images are the same exactly if one symmetry leaves the permutation as it is. -/
theorem sym_eq {p : List Int} (h : isP p = true) {i j : Nat} (hi : i < 8) (hj : j < 8) : symL p i = symL p j ↔ symL p (mulS j (invS i)) = p := by
  have hii := invS_lt i hi
  constructor
  · intro e
    rw [← sym_sym h hj hii, ← e, sym_sym h hi hii, mulS_inv i hi]
    exact (sym_list p).1
  · intro e
    have h2 := mulS_lt j hj _ hii
    have h3 := sym_sym h h2 hi
    rw [e, mulS_back i hi j hj] at h3
    exact h3
/-- The numbers of the first images. -/
def firsts (e : Nat → Bool) : List Nat := (List.range 8).filter fun j => (List.range j).all fun i => !e (mulS j (invS i))
def tab (b0 b1 b2 b3 b4 b5 b6 b7 : Bool) (k : Nat) : Bool := [b0, b1, b2, b3, b4, b5, b6, b7].getD k false
theorem div8 : ∀ b1 b2 b3 b4 b5 b6 b7 : Bool, (∀ i, i < 8 → ∀ j, j < 8 → tab true b1 b2 b3 b4 b5 b6 b7 i = true → tab true b1 b2 b3 b4 b5 b6 b7 j = true → tab true b1 b2 b3 b4 b5 b6 b7 (mulS i j) = true) →
    8 % (firsts (tab true b1 b2 b3 b4 b5 b6 b7)).length = 0 := by decide +kernel
theorem cls_div {p : List Int} (h : isP p = true) : 0 < (clsR p).length ∧ 8 % (clsR p).length = 0 := by
  refine ⟨List.length_pos_iff.2 (clsR_ne h), ?_⟩
  obtain ⟨e, he⟩ : ∃ e : Nat → Bool, e = fun k => decide (symL p k = p) := ⟨_, rfl⟩
  have hE : ∀ k, e k = true ↔ symL p k = p := fun k => by rw [he]; simp
  -- the first images are the class
  have hperm : (clsR p).Perm ((firsts e).map fun j => symL p j) := by
    have hn1 : (clsR p).Nodup := by
      rw [List.nodup_iff_pairwise_ne]
      exact (asc_cls h).imp fun hab e => by subst e; rw [befL_irrefl] at hab; cases hab
    have hn2 : ((firsts e).map fun j => symL p j).Nodup := by
      rw [List.nodup_iff_pairwise_ne, List.pairwise_map]
      unfold firsts
      have hlt : ((List.range 8).filter fun j => (List.range j).all fun i => !e (mulS j (invS i))).Pairwise (· < ·) := List.pairwise_lt_range.sublist List.filter_sublist
      refine hlt.imp_of_mem fun {i j} hi hj hij heq => ?_
      have hi8 := List.mem_range.1 (List.mem_filter.1 hi).1
      have hj8 := List.mem_range.1 (List.mem_filter.1 hj).1
      have hall := (List.mem_filter.1 hj).2
      rw [List.all_eq_true] at hall
      have h2 := hall i (List.mem_range.2 hij)
      have h3 := (hE _).2 ((sym_eq h hi8 hj8).1 heq)
      rw [h3] at h2
      cases h2
    refine (List.perm_ext_iff_of_nodup hn1 hn2).2 fun x => ?_
    rw [mem_cls h, List.mem_map]
    constructor
    · rintro ⟨j, hj, rfl⟩
      -- the least number with this image
      have hleast : ∀ n, ∀ j, j ≤ n → j < 8 → ∃ i, i ∈ firsts e ∧ symL p i = symL p j := fun n => by
        induction n with
        | zero =>
          intro j hj _
          obtain rfl : j = 0 := by omega
          exact ⟨0, by simp [firsts, List.mem_filter], rfl⟩
        | succ n ih =>
          intro j hj hj8
          by_cases hf : j ∈ firsts e
          · exact ⟨j, hf, rfl⟩
          · have : ∃ i, i < j ∧ e (mulS j (invS i)) = true := by
              refine Classical.byContradiction fun hc => hf ?_
              refine List.mem_filter.2 ⟨List.mem_range.2 hj8, ?_⟩
              rw [List.all_eq_true]
              intro i hi
              cases hb : e (mulS j (invS i)) with
              | false => rfl
              | true => exact absurd ⟨i, List.mem_range.1 hi, hb⟩ hc
            obtain ⟨i, hij, hb⟩ := this
            obtain ⟨i', h1, h2⟩ := ih i (by omega) (by omega)
            exact ⟨i', h1, h2.trans ((sym_eq h (by omega) hj8).2 ((hE _).1 hb))⟩
      obtain ⟨i, h1, h2⟩ := hleast j j (Nat.le_refl _) hj
      exact ⟨i, h1, h2⟩
    · rintro ⟨i, hi, rfl⟩
      exact ⟨i, List.mem_range.1 (List.mem_filter.1 hi).1, rfl⟩
  rw [hperm.length_eq, List.length_map]
  -- the numbers that leave p as it is are closed
  have hclosed : ∀ i, i < 8 → ∀ j, j < 8 → e i = true → e j = true → e (mulS i j) = true := fun i hi j hj h1 h2 => by
    rw [hE] at h1 h2 ⊢
    rw [← sym_sym h hi hj, h1, h2]
  have htab : ∀ k, k < 8 → tab true (e 1) (e 2) (e 3) (e 4) (e 5) (e 6) (e 7) k = e k := fun k hk => by
    have e0 : e 0 = true := (hE 0).2 (sym_list p).1
    rcases (show k = 0 ∨ k = 1 ∨ k = 2 ∨ k = 3 ∨ k = 4 ∨ k = 5 ∨ k = 6 ∨ k = 7 by omega) with rfl | rfl | rfl | rfl | rfl | rfl | rfl | rfl
    · exact e0.symm
    all_goals rfl
  have hfe : firsts e = firsts (tab true (e 1) (e 2) (e 3) (e 4) (e 5) (e 6) (e 7)) := by
    unfold firsts
    refine List.filter_congr fun j hj => ?_
    have hj8 := List.mem_range.1 hj
    rw [Bool.eq_iff_iff, List.all_eq_true, List.all_eq_true]
    refine forall_congr' fun i => ?_
    constructor
    · intro h1 hi
      rw [htab _ (mulS_lt j hj8 _ (invS_lt i (by have := List.mem_range.1 hi; omega)))]
      exact h1 hi
    · intro h1 hi
      rw [← htab _ (mulS_lt j hj8 _ (invS_lt i (by have := List.mem_range.1 hi; omega)))]
      exact h1 hi
  rw [hfe]
  refine div8 _ _ _ _ _ _ _ fun i hi j hj h1 h2 => ?_
  rw [htab i hi] at h1
  rw [htab j hj] at h2
  rw [htab _ (mulS_lt i hi j hj)]
  exact hclosed i hi j hj h1 h2
end Go.Proofs.Ytcoegjhhhnfplaa


/-
  PLAIN: the places of a part; occurrences in the reverse and in the inverse are as many.
-/

namespace Go.Proofs.Ytcoegjhhhnfplaa
set_option maxRecDepth 100000

/-! lists of lists without repetition -/
theorem asc_nodup {l : List (List Int)} (h : Asc l) : l.Nodup := by
  rw [List.nodup_iff_pairwise_ne]
  exact h.imp fun {a b} h e => by rw [e, befL_irrefl] at h; exact absurd h Bool.false_ne_true
theorem subL_erase {a : List Int} {l m : List (List Int)} (hnd : (a :: l).Nodup) (h : ∀ x ∈ a :: l, x ∈ m) : ∀ x ∈ l, x ∈ m.erase a := fun x hx => by
  have hne : x ≠ a := fun e => by subst e; exact (List.nodup_cons.1 hnd).1 hx
  exact (List.mem_erase_of_ne hne).2 (h x (by simp [hx]))
theorem pigeonL_le : ∀ {l m : List (List Int)}, l.Nodup → (∀ x ∈ l, x ∈ m) → l.length ≤ m.length
  | [], _, _, _ => Nat.zero_le _
  | a :: l, m, hnd, h => by
    have ha := h a (by simp)
    have h1 := pigeonL_le (List.nodup_cons.1 hnd).2 (subL_erase hnd h)
    have h2 := List.length_pos_of_mem ha
    rw [List.length_erase_of_mem ha] at h1
    rw [List.length_cons]; omega
/-- A list that is told apart into another one is not longer. -/
theorem inject_le {l m : List (List Int)} (f : List Int → List Int) (hl : l.Nodup) (h : ∀ x ∈ l, f x ∈ m) (hf : ∀ x ∈ l, ∀ y ∈ l, f x = f y → x = y) : l.length ≤ m.length := by
  have hn : (l.map f).Nodup := by
    rw [List.nodup_iff_pairwise_ne, List.pairwise_map]
    refine List.Pairwise.imp_of_mem (fun {a b} ha hb hne e => hne (hf a ha b hb e)) (List.nodup_iff_pairwise_ne.1 hl)
  have := pigeonL_le hn (m := m) fun x hx => by
    obtain ⟨y, hy, rfl⟩ := List.mem_map.1 hx
    exact h y hy
  rwa [List.length_map] at this

/-! the reverse -/
theorem cnt_rev (l : List Int) (v : Int) : cnt l.reverse v = cnt l v := by unfold cnt; rw [List.filter_reverse, List.length_reverse]
theorem patL_rev (l : List Int) : patL l.reverse = (patL l).reverse := by
  unfold patL
  rw [List.map_reverse]
  congr 1
  exact List.map_congr_left fun x _ => by rw [cnt_rev]
def plRev (n : Nat) (pl : List Int) : List Int := (pl.map fun x => (n : Int) + 1 - x).reverse
theorem plRev_ok {n : Nat} {pl : List Int} (h : PlOK n pl) : PlOK n (plRev n pl) := by
  refine ⟨fun x hx => ?_, ?_⟩
  · unfold plRev at hx
    rw [List.mem_reverse, List.mem_map] at hx
    obtain ⟨y, hy, rfl⟩ := hx
    have := h.1 y hy; omega
  · unfold plRev
    rw [List.pairwise_reverse, List.pairwise_map]
    exact h.2.imp fun h => by omega
theorem plRev_back (n : Nat) (pl : List Int) : plRev n (plRev n pl) = pl := by
  unfold plRev
  rw [List.map_reverse, List.reverse_reverse, List.map_map]
  rw [show ((fun x => (n : Int) + 1 - x) ∘ fun x => (n : Int) + 1 - x) = id by funext x; simp only [Function.comp, id]; omega]
  exact List.map_id pl
theorem at0_rev {l : List Int} {i : Nat} (h : i < l.length) : at0 l.reverse i = at0 l (l.length - 1 - i) := at0_of (by rw [List.getElem?_reverse h]; exact at0_some (by omega))
theorem nums_rev {p pl : List Int} (h : PlOK p.length pl) : nums p.reverse (plRev p.length pl) = (nums p pl).reverse := by
  unfold nums plRev
  rw [List.map_reverse, List.map_map]
  congr 1
  refine List.map_congr_left fun x hx => ?_
  have := h.1 x hx
  simp only [Function.comp]
  rw [at0_rev (by omega)]
  congr 1; omega
theorem occ_rev {p q pl : List Int} (h : pl ∈ occR p q) : plRev p.length pl ∈ occR p.reverse q.reverse := by
  rw [mem_occ, isOcc_iff] at h ⊢
  obtain ⟨h1, h2, h3, h4, h5⟩ := h
  refine ⟨isP_rev h1, isP_rev h2, by rw [plRev, List.length_reverse, List.length_map, List.length_reverse, h3], by rw [List.length_reverse]; exact plRev_ok h4, ?_⟩
  rw [nums_rev h4, patL_rev, h5]
theorem occ_rev_le (p q : List Int) : (occR p q).length ≤ (occR p.reverse q.reverse).length :=
  inject_le (plRev p.length) (asc_nodup (occ_asc p q)) (fun _ h => occ_rev h) fun x _ y _ e => by rw [← plRev_back p.length x, e, plRev_back]
theorem occ_rev_len (p q : List Int) : (occR p.reverse q.reverse).length = (occR p q).length := by
  have h1 := occ_rev_le p q
  have h2 := occ_rev_le p.reverse q.reverse
  rw [List.reverse_reverse, List.reverse_reverse] at h2
  omega

/-! the inverse -/
/-- The places in the inverse: the numbers at the places, in ascending order. -/
def plInv (p q pl : List Int) : List Int := (List.range q.length).map fun j => at0 (nums p pl) ((at0 (invL q) j).toNat - 1)
theorem plInv_length (p q pl : List Int) : (plInv p q pl).length = q.length := by simp [plInv]
theorem plInv_at {p q pl : List Int} {j : Nat} (h : j < q.length) : at0 (plInv p q pl) j = at0 (nums p pl) ((at0 (invL q) j).toNat - 1) := at0_of (by unfold plInv; rw [List.getElem?_map, List.getElem?_range h]; rfl)
/-- A place of the inverse: where the number stands. -/
theorem inv_at {q : List Int} (hq : isP q = true) {j : Nat} (hj : j < q.length) : ∃ i, i < q.length ∧ at0 q i = (j : Int) + 1 ∧ at0 (invL q) j = (i : Int) + 1 := by
  obtain ⟨i, hi, h1, h2⟩ := invL_get hq hj
  exact ⟨i, hi, at0_of h1, at0_of h2⟩
theorem inv_val {p : List Int} (hp : isP p = true) {i : Nat} (hi : i < p.length) : at0 (invL p) ((at0 p i).toNat - 1) = (i : Int) + 1 := at0_of (invL_at hp hi (at0_some hi))
theorem rng_at {p : List Int} (hp : isP p = true) {i : Nat} (hi : i < p.length) : 1 ≤ at0 p i ∧ at0 p i ≤ (p.length : Int) := isP_range hp (at0_some hi)
theorem plOK_of {n : Nat} {l : List Int} (h1 : ∀ i, i < l.length → 1 ≤ at0 l i ∧ at0 l i ≤ (n : Int)) (h2 : ∀ i j, i < j → j < l.length → at0 l i < at0 l j) : PlOK n l := by
  refine ⟨fun x hx => ?_, List.pairwise_iff_getElem.2 fun i j hi hj hij => ?_⟩
  · obtain ⟨i, hi, rfl⟩ := List.getElem_of_mem hx
    have := h1 i hi
    rwa [at0_of (List.getElem?_eq_getElem hi)] at this
  · have := h2 i j hij hj
    rwa [at0_of (List.getElem?_eq_getElem hi), at0_of (List.getElem?_eq_getElem hj)] at this
theorem occ_inv {p q pl : List Int} (h : pl ∈ occR p q) : plInv p q pl ∈ occR (invL p) (invL q) ∧ ∀ i, i < pl.length → at0 (nums (invL p) (plInv p q pl)) ((at0 q i).toNat - 1) = at0 pl i := by
  rw [mem_occ, isOcc_iff] at h
  obtain ⟨h1, h2, h3, h4, h5⟩ := h
  have ha := (pat_eq_iff h2).1 h5
  have hnl := nums_length p pl
  have hv : ∀ i, i < pl.length → 1 ≤ at0 (nums p pl) i ∧ at0 (nums p pl) i ≤ (p.length : Int) := fun i hi => by
    have := h4.rng hi
    rw [nums_at0 hi]
    exact rng_at h1 (by omega)
  have hok : PlOK (invL p).length (plInv p q pl) := by
    rw [invL_length]
    refine plOK_of (fun i hi => ?_) fun i j hij hj => ?_
    · rw [plInv_length] at hi
      rw [plInv_at hi]
      obtain ⟨k, hk, _, e⟩ := inv_at h2 hi
      rw [e]
      have := hv k (by omega)
      rwa [show ((k : Int) + 1).toNat - 1 = k by omega]
    · rw [plInv_length] at hj
      rw [plInv_at (show i < q.length by omega), plInv_at hj]
      obtain ⟨k, hk, e1, e⟩ := inv_at h2 (show i < q.length by omega)
      obtain ⟨k', hk', e1', e'⟩ := inv_at h2 hj
      rw [e, e', show ((k : Int) + 1).toNat - 1 = k by omega, show ((k' : Int) + 1).toNat - 1 = k' by omega]
      rw [ha.2 k k' (by omega) (by omega), e1, e1']
      omega
  have hback : ∀ j, j < q.length → at0 (nums (invL p) (plInv p q pl)) j = at0 pl ((at0 (invL q) j).toNat - 1) := fun j hj => by
    rw [nums_at0 (by rw [plInv_length]; exact hj), plInv_at hj]
    obtain ⟨k, hk, _, e⟩ := inv_at h2 hj
    rw [e, show ((k : Int) + 1).toNat - 1 = k by omega, nums_at0 (by omega)]
    have := h4.rng (i := k) (by omega)
    rw [inv_val h1 (by omega)]
    omega
  refine ⟨?_, fun i hi => ?_⟩
  · rw [mem_occ, isOcc_iff]
    refine ⟨invL_isP h1, invL_isP h2, by rw [plInv_length, invL_length], hok, ?_⟩
    rw [pat_eq_iff (invL_isP h2)]
    refine ⟨by rw [nums_length, plInv_length, invL_length], fun i j hi hj => ?_⟩
    rw [nums_length, plInv_length] at hi hj
    rw [hback i hi, hback j hj]
    obtain ⟨k, hk, _, e⟩ := inv_at h2 hi
    obtain ⟨k', hk', _, e'⟩ := inv_at h2 hj
    rw [e, e', show ((k : Int) + 1).toNat - 1 = k by omega, show ((k' : Int) + 1).toNat - 1 = k' by omega]
    rcases Nat.lt_trichotomy k k' with hh | hh | hh
    · have := h4.mono hh (by omega); omega
    · subst hh; omega
    · have := h4.mono hh (by omega); omega
  · have hr := rng_at h2 (show i < q.length by omega)
    rw [hback _ (by omega), inv_val h2 (by omega), show ((i : Int) + 1).toNat - 1 = i by omega]
theorem occ_inv_le (p q : List Int) : (occR p q).length ≤ (occR (invL p) (invL q)).length :=
  inject_le (plInv p q) (asc_nodup (occ_asc p q)) (fun _ h => (occ_inv h).1) fun x hx y hy e => by
    have h1 := (isOcc_iff.1 (mem_occ.1 hx)).2.2.1
    have h2 := (isOcc_iff.1 (mem_occ.1 hy)).2.2.1
    refine ext_at0 (by omega) fun i hi => ?_
    rw [← (occ_inv hx).2 i hi, e, (occ_inv hy).2 i (by omega)]
theorem occ_inv_len {p q : List Int} (hp : isP p = true) (hq : isP q = true) : (occR (invL p) (invL q)).length = (occR p q).length := by
  have h1 := occ_inv_le p q
  have h2 := occ_inv_le (invL p) (invL q)
  rw [inv_inv hp, inv_inv hq] at h2
  omega

/-! a part of a permutation -/
theorem nums_up (a : Int) (l pl : List Int) (h : ∀ x ∈ pl, 1 ≤ x) : nums (a :: l) (pl.map fun x => x + 1) = nums l pl := by
  unfold nums
  rw [List.map_map]
  refine List.map_congr_left fun x hx => ?_
  have := h x hx
  simp only [Function.comp]
  rw [show (x + 1).toNat - 1 = x.toNat - 1 + 1 by omega, at0_succ]
theorem plOK_up {n : Nat} {pl : List Int} (h : PlOK n pl) : PlOK (n + 1) (pl.map fun x => x + 1) := by
  refine ⟨fun x hx => ?_, ?_⟩
  · obtain ⟨y, hy, rfl⟩ := List.mem_map.1 hx
    have := h.1 y hy; omega
  · rw [List.pairwise_map]
    exact h.2.imp fun h => by omega
theorem places_of {s l : List Int} (h : s.Sublist l) : ∃ pl, PlOK l.length pl ∧ nums l pl = s := by
  induction h with
  | slnil => exact ⟨[], PlOK.nil _, rfl⟩
  | cons a _ ih =>
    obtain ⟨pl, h1, h2⟩ := ih
    exact ⟨_, by rw [List.length_cons]; exact plOK_up h1, by rw [nums_up a _ pl fun x hx => (h1.1 x hx).1, h2]⟩
  | cons_cons a _ ih =>
    obtain ⟨pl, h1, h2⟩ := ih
    refine ⟨1 :: pl.map fun x => x + 1, ?_, ?_⟩
    · rw [List.length_cons]
      have h3 := plOK_up h1
      refine ⟨fun x hx => ?_, List.pairwise_cons.2 ⟨fun x hx => ?_, h3.2⟩⟩
      · rcases List.mem_cons.1 hx with rfl | hx
        · omega
        · exact h3.1 x hx
      · obtain ⟨y, hy, rfl⟩ := List.mem_map.1 hx
        have := h1.1 y hy; omega
    · have h3 := (nums_up a _ pl fun x hx => (h1.1 x hx).1).trans h2
      unfold nums at h3 ⊢
      rw [List.map_cons, h3]; rfl
theorem occ_sub {p s : List Int} (hp : isP p = true) (h : s.Sublist p) (hs : isP (patL s) = true) : 0 < (occR p (patL s)).length := by
  obtain ⟨pl, h1, h2⟩ := places_of h
  refine List.length_pos_of_mem (a := pl) ?_
  rw [mem_occ, isOcc_iff]
  exact ⟨hp, hs, by rw [patL_length, ← h2, nums_length], h1, by rw [h2]⟩
end Go.Proofs.Ytcoegjhhhnfplaa


/-
  PLAIN: occurrences some of whose places are side by side. Nothing here speaks of the program.
-/

namespace Go.Proofs.Ytcoegjhhhnfplaa
set_option maxRecDepth 100000

/-- A permutation, and numbers of places that are joined with the next one. -/
def nearOK (q J : List Int) : Bool := isP q && decide (PlOK (q.length - 1) J)
theorem nearOK_iff {q J : List Int} : nearOK q J = true ↔ isP q = true ∧ PlOK (q.length - 1) J := by
  unfold nearOK; rw [Bool.and_eq_true, decide_eq_true_eq]
/-- The joined places are side by side. -/
def fitJ (J pl : List Int) : Bool := J.all fun j => decide (at0 pl j.toNat = at0 pl (j.toNat - 1) + 1)
theorem fitJ_iff {J pl : List Int} : fitJ J pl = true ↔ ∀ j ∈ J, at0 pl j.toNat = at0 pl (j.toNat - 1) + 1 := by
  unfold fitJ
  simp only [List.all_eq_true, decide_eq_true_eq]
theorem fitJ_nil (pl : List Int) : fitJ [] pl = true := rfl
/-- The occurrences of a Near. -/
def nearR (p q J : List Int) : List (List Int) := (occR p q).filter (fitJ J)
def numNear (p q J : List Int) : Int := if isP p && nearOK q J then ((nearR p q J).length : Int) else -1
theorem numNear_yes {p q J : List Int} (hp : isP p = true) (h : nearOK q J = true) : numNear p q J = ((nearR p q J).length : Int) := by unfold numNear; rw [if_pos (by simp [hp, h])]
theorem numNear_no {p q J : List Int} (h : isP p = false ∨ nearOK q J = false) : numNear p q J = -1 := by
  unfold numNear
  rw [if_neg (by rcases h with h | h <;> simp [h])]
theorem nearOK_nil {q : List Int} (hq : isP q = true) : nearOK q [] = true := nearOK_iff.2 ⟨hq, PlOK.nil _⟩
theorem near_plain (p q : List Int) : nearR p q [] = occR p q := List.filter_eq_self.2 fun _ _ => rfl
theorem near_le (p q J : List Int) : (nearR p q J).length ≤ (occR p q).length := List.length_filter_le _ _
theorem near_nodup (p q J : List Int) : (nearR p q J).Nodup := (asc_nodup (occ_asc p q)).sublist List.filter_sublist

/-! the reverse -/
theorem plRev_at {n : Nat} {pl : List Int} {i : Nat} (h : i < pl.length) : at0 (plRev n pl) i = (n : Int) + 1 - at0 pl (pl.length - 1 - i) := by
  unfold plRev
  rw [at0_rev (by rw [List.length_map]; exact h), List.length_map]
  exact at0_of (by rw [List.getElem?_map, at0_some (by omega)]; rfl)
theorem fit_rev {n : Nat} {J pl : List Int} (hJ : PlOK (pl.length - 1) J) (hf : fitJ J pl = true) : fitJ (plRev (pl.length - 1) J) (plRev n pl) = true := by
  rw [fitJ_iff] at hf ⊢
  intro j hj
  unfold plRev at hj
  rw [List.mem_reverse, List.mem_map] at hj
  obtain ⟨x, hx, rfl⟩ := hj
  have hr := hJ.1 x hx
  have h1 := hf x hx
  rw [plRev_at (by omega), plRev_at (by omega)]
  rw [show pl.length - 1 - (((pl.length - 1 : Nat) : Int) + 1 - x).toNat = x.toNat - 1 by omega, show pl.length - 1 - ((((pl.length - 1 : Nat) : Int) + 1 - x).toNat - 1) = x.toNat by omega]
  omega
theorem near_rev_le {p q J : List Int} (hJ : PlOK (q.length - 1) J) : (nearR p q J).length ≤ (nearR p.reverse q.reverse (plRev (q.length - 1) J)).length :=
  inject_le (plRev p.length) (near_nodup p q J) (fun pl h => by
    unfold nearR at h ⊢
    rw [List.mem_filter] at h ⊢
    have hl := (isOcc_iff.1 (mem_occ.1 h.1)).2.2.1
    exact ⟨occ_rev h.1, by rw [← hl] at hJ ⊢; exact fit_rev hJ h.2⟩) fun x _ y _ e => by rw [← plRev_back p.length x, e, plRev_back]
theorem near_rev {p q J : List Int} (hJ : PlOK (q.length - 1) J) : (nearR p.reverse q.reverse (plRev (q.length - 1) J)).length = (nearR p q J).length := by
  have h1 := near_rev_le (p := p) (q := q) hJ
  have h2 := near_rev_le (p := p.reverse) (q := q.reverse) (J := plRev (q.length - 1) J) (by rw [List.length_reverse]; exact plRev_ok hJ)
  rw [List.reverse_reverse, List.reverse_reverse, List.length_reverse, plRev_back] at h2
  omega

/-! all places joined -/
def conJ (n : Nat) : List Int := (List.range (n - 1)).map fun (i : Nat) => (i : Int) + 1
theorem conJ_mem {n : Nat} {j : Int} : j ∈ conJ n ↔ 1 ≤ j ∧ j ≤ ((n - 1 : Nat) : Int) := by
  unfold conJ
  rw [List.mem_map]
  constructor
  · rintro ⟨i, hi, rfl⟩
    rw [List.mem_range] at hi
    omega
  · rintro ⟨h1, h2⟩
    exact ⟨j.toNat - 1, List.mem_range.2 (by omega), by omega⟩
theorem conJ_ok (n : Nat) : PlOK (n - 1) (conJ n) := by
  refine ⟨fun x hx => by have := conJ_mem.1 hx; omega, ?_⟩
  unfold conJ
  rw [List.pairwise_map]
  exact List.pairwise_lt_range.imp fun h => by omega
theorem con_near {q : List Int} (hq : isP q = true) : nearOK q (conJ q.length) = true := nearOK_iff.2 ⟨hq, conJ_ok _⟩
/-- Places in a run. -/
def runPl (k m : Nat) : List Int := (List.range m).map fun (i : Nat) => ((k + i : Nat) : Int) + 1
theorem runPl_length (k m : Nat) : (runPl k m).length = m := by simp [runPl]
theorem runPl_at {k m i : Nat} (h : i < m) : at0 (runPl k m) i = ((k + i : Nat) : Int) + 1 := at0_of (by unfold runPl; rw [List.getElem?_map, List.getElem?_range h]; rfl)
theorem runPl_ok {k m n : Nat} (h : k + m ≤ n) : PlOK n (runPl k m) := by
  constructor
  · intro x hx
    unfold runPl at hx
    rw [List.mem_map] at hx
    obtain ⟨i, hi, rfl⟩ := hx
    rw [List.mem_range] at hi
    omega
  · unfold runPl
    rw [List.pairwise_map]
    exact List.pairwise_lt_range.imp fun h => by omega
theorem runPl_nums {p : List Int} {k m : Nat} (h : k + m ≤ p.length) : nums p (runPl k m) = (p.drop k).take m := by
  refine ext_at0 (by rw [nums_length, runPl_length, List.length_take, List.length_drop]; omega) fun i hi => ?_
  rw [nums_length, runPl_length] at hi
  rw [nums_at0 (by rw [runPl_length]; exact hi), runPl_at hi]
  refine (at0_of ?_).symm
  rw [List.getElem?_take, if_pos hi, List.getElem?_drop, at0_some (by omega)]
  congr 2
theorem runPl_fit (k m : Nat) : fitJ (conJ m) (runPl k m) = true := by
  rw [fitJ_iff]
  intro j hj
  have := conJ_mem.1 hj
  rw [runPl_at (by omega), runPl_at (by omega)]
  omega
theorem fit_run {pl : List Int} {n : Nat} (hok : PlOK n pl) (h0 : 0 < pl.length) (hf : fitJ (conJ pl.length) pl = true) : pl = runPl ((at0 pl 0).toNat - 1) pl.length ∧ (at0 pl 0).toNat - 1 + pl.length ≤ n := by
  rw [fitJ_iff] at hf
  have h1 := hok.rng h0
  have key : ∀ i, i < pl.length → at0 pl i = at0 pl 0 + (i : Int) := by
    intro i
    induction i with
    | zero => intro _; simp
    | succ i ih =>
      intro hi
      have h2 := hf ((i : Int) + 1) (conJ_mem.2 (by omega))
      rw [show ((i : Int) + 1).toNat = i + 1 by omega, Nat.add_sub_cancel, ih (by omega)] at h2
      rw [h2]; omega
  refine ⟨ext_at0 (by rw [runPl_length]) fun i hi => by rw [runPl_at hi, key i hi]; omega, ?_⟩
  have h3 := key (pl.length - 1) (by omega)
  have h4 := hok.rng (i := pl.length - 1) (by omega)
  omega
/-- The beginnings of the runs with this pattern, among the first k. -/
def runK (p q : List Int) (k : Nat) : List Nat := (List.range k).filter fun i => decide (patL ((p.drop i).take q.length) = q)
def runN (p q : List Int) : Nat := (runK p q (p.length + 1 - q.length)).length
theorem near_runs {p q : List Int} (hp : isP p = true) (hq : isP q = true) (h0 : 0 < q.length) : (nearR p q (conJ q.length)).length = runN p q := by
  have hin : ∀ pl, pl ∈ nearR p q (conJ q.length) ↔ pl ∈ (runK p q (p.length + 1 - q.length)).map fun k => runPl k q.length := by
    intro pl
    unfold nearR
    rw [List.mem_filter, mem_occ, isOcc_iff, List.mem_map]
    constructor
    · rintro ⟨⟨_, _, h1, h2, h3⟩, h4⟩
      rw [← h1] at h4
      obtain ⟨h5, h6⟩ := fit_run h2 (by omega) h4
      refine ⟨(at0 pl 0).toNat - 1, ?_, by rw [← h1]; exact h5.symm⟩
      unfold runK
      rw [List.mem_filter, List.mem_range, decide_eq_true_eq, ← runPl_nums (by omega), ← h1, ← h5]
      exact ⟨by omega, h3.trans rfl⟩
    · rintro ⟨k, hk, rfl⟩
      unfold runK at hk
      rw [List.mem_filter, List.mem_range, decide_eq_true_eq] at hk
      exact ⟨⟨hp, hq, runPl_length _ _, runPl_ok (by omega), by rw [runPl_nums (by omega)]; exact hk.2⟩, runPl_fit _ _⟩
  have hnd : ((runK p q (p.length + 1 - q.length)).map fun k => runPl k q.length).Nodup := by
    rw [List.nodup_iff_pairwise_ne, List.pairwise_map]
    refine ((List.pairwise_lt_range (n := p.length + 1 - q.length)).sublist (List.filter_sublist (p := fun i => decide (patL ((p.drop i).take q.length) = q)))).imp fun {a b} hab e => ?_
    have h1 := congrArg (fun l => at0 l 0) e
    simp only [runPl_at h0] at h1
    omega
  have h1 := pigeonL_le (near_nodup p q (conJ q.length)) fun x hx => (hin x).1 hx
  have h2 := pigeonL_le hnd fun x hx => (hin x).2 hx
  rw [List.length_map] at h1 h2
  unfold runN
  omega
end Go.Proofs.Ytcoegjhhhnfplaa


/-
  PLAIN: occurrences with shaded boxes. Nothing here speaks of the program.
-/

namespace Go.Proofs.Ytcoegjhhhnfplaa
set_option maxRecDepth 100000

/-- A box over n numbers. -/
def boxOK (n : Nat) (s : List Int) : Bool := decide (s.length = 2) && decide (0 ≤ at0 s 0 ∧ at0 s 0 ≤ (n : Int)) && decide (0 ≤ at0 s 1 ∧ at0 s 1 ≤ (n : Int))
/-- The first k of them are boxes that ascend. -/
def boxesK (n : Nat) (S : List (List Int)) : Nat → Bool
  | 0 => true
  | k + 1 => boxesK n S k && boxOK n (S.getD k []) && (decide (k = 0) || befL (S.getD (k - 1) []) (S.getD k []))
def meshOK (q : List Int) (S : List (List Int)) : Bool := isP q && decide (q.length ≤ 4) && boxesK q.length S S.length
theorem meshOK_iff {q : List Int} {S : List (List Int)} : meshOK q S = true ↔ isP q = true ∧ q.length ≤ 4 ∧ boxesK q.length S S.length = true := by
  unfold meshOK; rw [Bool.and_eq_true, Bool.and_eq_true, decide_eq_true_eq, and_assoc]
theorem boxesK_down {n : Nat} {S : List (List Int)} : ∀ {k j : Nat}, boxesK n S k = true → j ≤ k → boxesK n S j = true
  | 0, j, h, hj => by obtain rfl : j = 0 := by omega
                      exact h
  | k + 1, j, h, hj => by
    by_cases e : j = k + 1
    · rw [e]; exact h
    · rw [boxesK, Bool.and_eq_true, Bool.and_eq_true] at h
      exact boxesK_down h.1.1 (by omega)
theorem boxesK_box {n : Nat} {S : List (List Int)} {k i : Nat} (h : boxesK n S k = true) (hi : i < k) : boxOK n (S.getD i []) = true := by
  have := boxesK_down h (show i + 1 ≤ k by omega)
  rw [boxesK, Bool.and_eq_true, Bool.and_eq_true] at this
  exact this.1.2
theorem boxesK_bef {n : Nat} {S : List (List Int)} {k i : Nat} (h : boxesK n S k = true) (hi : i + 1 < k) : befL (S.getD i []) (S.getD (i + 1) []) = true := by
  have := boxesK_down h (show i + 1 + 1 ≤ k by omega)
  rw [boxesK, Bool.and_eq_true, Bool.and_eq_true, Bool.or_eq_true, decide_eq_true_eq] at this
  rcases this.2 with h0 | h0
  · omega
  · exact h0
/-- The box of a place. -/
def boxAt (p pl : List Int) (i : Nat) : List Int := [(cnt pl ((i : Int) + 1) : Int), (cnt (nums p pl) (at0 p i) : Int)]
/-- No place but its own is in a shaded box. -/
def fitsM (p pl : List Int) (S : List (List Int)) : Bool := (List.range p.length).all fun i => decide ((i : Int) + 1 ∈ pl) || !decide (boxAt p pl i ∈ S)
theorem fitsM_iff {p pl : List Int} {S : List (List Int)} : fitsM p pl S = true ↔ ∀ i, i < p.length → ¬ (i : Int) + 1 ∈ pl → ¬ boxAt p pl i ∈ S := by
  unfold fitsM
  simp only [List.all_eq_true, List.mem_range, Bool.or_eq_true, decide_eq_true_eq, Bool.not_eq_true', decide_eq_false_iff_not]
  constructor
  · intro h i hi hn
    rcases h i hi with h | h
    · exact absurd h hn
    · exact h
  · intro h i hi
    by_cases hm : (i : Int) + 1 ∈ pl
    · exact .inl hm
    · exact .inr (h i hi hm)
theorem fitsM_nil (p pl : List Int) : fitsM p pl [] = true := fitsM_iff.2 fun _ _ _ h => by simp at h
theorem fitsM_more {p pl : List Int} {S R : List (List Int)} (h : ∀ s ∈ S, s ∈ R) (hf : fitsM p pl R = true) : fitsM p pl S = true := fitsM_iff.2 fun i hi hn hm => (fitsM_iff.1 hf) i hi hn (h _ hm)
theorem fitsM_same {p pl : List Int} {S R : List (List Int)} (h : ∀ s, s ∈ S ↔ s ∈ R) : fitsM p pl S = fitsM p pl R := by
  rw [Bool.eq_iff_iff]
  exact ⟨fitsM_more fun s hs => (h s).2 hs, fitsM_more fun s hs => (h s).1 hs⟩
/-- The occurrences of a mesh. -/
def meshR (p q : List Int) (S : List (List Int)) : List (List Int) := (occR p q).filter fun pl => fitsM p pl S
def numMesh (p q : List Int) (S : List (List Int)) : Int := if isP p && meshOK q S then ((meshR p q S).length : Int) else -1
theorem numMesh_yes {p q : List Int} {S : List (List Int)} (hp : isP p = true) (h : meshOK q S = true) : numMesh p q S = ((meshR p q S).length : Int) := by unfold numMesh; rw [if_pos (by simp [hp, h])]
theorem numMesh_no {p q : List Int} {S : List (List Int)} (h : isP p = false ∨ meshOK q S = false) : numMesh p q S = -1 := by
  unfold numMesh
  rw [if_neg (by rcases h with h | h <;> simp [h])]
theorem mesh_le (p q : List Int) (S : List (List Int)) : (meshR p q S).length ≤ (occR p q).length := List.length_filter_le _ _

/-! how many are below, in an ascending list -/
theorem cnt_asc {n : Nat} {pl : List Int} (h : PlOK n pl) (v : Int) : ∀ i, i < pl.length → (at0 pl i < v ↔ i < cnt pl v) := by
  induction pl with
  | nil => intro i hi; simp at hi
  | cons a r ih =>
    have hr : PlOK n r := ⟨fun x hx => h.1 x (List.mem_cons_of_mem _ hx), (List.pairwise_cons.1 h.2).2⟩
    have ha := (List.pairwise_cons.1 h.2).1
    intro i hi
    by_cases hv : a < v
    · have hc : cnt (a :: r) v = cnt r v + 1 := by unfold cnt; rw [List.filter_cons_of_pos (by simpa using hv)]; rfl
      rw [hc]
      cases i with
      | zero =>
        have : at0 (a :: r) 0 = a := at0_of rfl
        rw [this]; omega
      | succ i =>
        have e : at0 (a :: r) (i + 1) = at0 r i := at0_of (by rw [List.getElem?_cons_succ]; exact at0_some (by simpa using hi))
        rw [e, ih hr i (by simpa using hi)]; omega
    · have hc : cnt (a :: r) v = 0 := by
        unfold cnt
        rw [List.length_eq_zero_iff, List.filter_eq_nil_iff]
        intro x hx
        rcases List.mem_cons.1 hx with rfl | hx
        · simpa using hv
        · have := ha x hx; simp; omega
      rw [hc]
      have : a ≤ at0 (a :: r) i := by
        cases i with
        | zero => rw [show at0 (a :: r) 0 = a from at0_of rfl]; exact Int.le_refl _
        | succ i =>
          have e : at0 (a :: r) (i + 1) = at0 r i := at0_of (by rw [List.getElem?_cons_succ]; exact at0_some (by simpa using hi))
          rw [e]
          have := ha (at0 r i) (List.mem_of_getElem? (at0_some (by simpa using hi)))
          omega
      omega

/-! joined places are shaded columns -/
def colS (m : Nat) (J : List Int) : List (List Int) := J.flatMap fun j => (List.range (m + 1)).map fun (y : Nat) => [j, (y : Int)]
theorem mem_colS {m : Nat} {J : List Int} {x y : Int} : [x, y] ∈ colS m J ↔ x ∈ J ∧ 0 ≤ y ∧ y ≤ (m : Int) := by
  unfold colS
  rw [List.mem_flatMap]
  constructor
  · rintro ⟨j, hj, h⟩
    rw [List.mem_map] at h
    obtain ⟨k, hk, e⟩ := h
    rw [List.mem_range] at hk
    simp only [List.cons.injEq, and_true] at e
    obtain ⟨rfl, rfl⟩ := e
    exact ⟨hj, by omega, by omega⟩
  · rintro ⟨hj, h1, h2⟩
    exact ⟨x, hj, List.mem_map.2 ⟨y.toNat, List.mem_range.2 (by omega), by rw [show ((y.toNat : Nat) : Int) = y by omega]⟩⟩
theorem mesh_near {p q J pl : List Int} (h : pl ∈ occR p q) (hJ : PlOK (q.length - 1) J) : fitsM p pl (colS q.length J) = fitJ J pl := by
  obtain ⟨hp, hq, hl, hok, hpat⟩ := isOcc_iff.1 (mem_occ.1 h)
  rw [Bool.eq_iff_iff, fitsM_iff, fitJ_iff]
  constructor
  · intro hf j hj
    have hr := hJ.1 j hj
    have h1 := hok.rng (i := j.toNat - 1) (by omega)
    have h2 := hok.rng (i := j.toNat) (by omega)
    have h3 := hok.mono (show j.toNat - 1 < j.toNat by omega) (by omega)
    by_cases e : at0 pl j.toNat = at0 pl (j.toNat - 1) + 1
    · exact e
    · exfalso
      obtain ⟨i, hi⟩ : ∃ i : Nat, (i : Int) = at0 pl (j.toNat - 1) := ⟨(at0 pl (j.toNat - 1)).toNat, by omega⟩
      have hc := cnt_asc hok ((i : Int) + 1)
      have c1 := (hc (j.toNat - 1) (by omega)).1 (by omega)
      have c2 : ¬ j.toNat < cnt pl ((i : Int) + 1) := fun hh => by have := (hc j.toNat (by omega)).2 hh; omega
      have hcn : cnt pl ((i : Int) + 1) = j.toNat := by omega
      refine hf i (by omega) (fun hm => ?_) ?_
      · obtain ⟨k, hk⟩ := List.getElem?_of_mem hm
        have hkl : k < pl.length := (List.getElem?_eq_some_iff.1 hk).1
        have ek : at0 pl k = (i : Int) + 1 := at0_of hk
        rcases Nat.lt_or_ge k j.toNat with hlt | hge
        · rcases Nat.lt_or_ge k (j.toNat - 1) with hl2 | hg2
          · have := hok.mono hl2 (by omega); omega
          · obtain rfl : k = j.toNat - 1 := by omega
            omega
        · rcases Nat.lt_or_ge j.toNat k with hl2 | hg2
          · have := hok.mono hl2 hkl; omega
          · obtain rfl : k = j.toNat := by omega
            omega
      · unfold boxAt
        rw [mem_colS, hcn]
        have := cnt_le (nums p pl) (at0 p i)
        rw [nums_length, hl] at this
        exact ⟨by rw [show ((j.toNat : Nat) : Int) = j by omega]; exact hj, by omega, by omega⟩
  · intro hf i hi hn hm
    unfold boxAt at hm
    rw [mem_colS] at hm
    have hj := hm.1
    have hr := hJ.1 _ hj
    have hc := cnt_asc hok ((i : Int) + 1)
    obtain ⟨k, hk⟩ : ∃ k, k = cnt pl ((i : Int) + 1) := ⟨_, rfl⟩
    rw [← hk] at hj hr hc
    have e := hf _ hj
    rw [Int.toNat_natCast] at e
    have c1 := (hc (k - 1) (by omega)).2 (by omega)
    have c2 : ¬ at0 pl k < (i : Int) + 1 := fun hh => by have := (hc k (by omega)).1 hh; omega
    have h4 : at0 pl k = (i : Int) + 1 := by omega
    exact hn (by rw [← h4]; exact List.mem_of_getElem? (at0_some (by omega)))
theorem mesh_near_num {p q J : List Int} (hJ : PlOK (q.length - 1) J) : meshR p q (colS q.length J) = nearR p q J := by
  unfold meshR nearR
  exact List.filter_congr fun pl h => mesh_near h hJ

/-! the inverse -/
theorem nodup_cnt {a b : List Int} (ha : a.Nodup) (hb : b.Nodup) (h : ∀ x, x ∈ a ↔ x ∈ b) (v : Int) : cnt a v = cnt b v := by
  unfold cnt
  exact ((List.perm_ext_iff_of_nodup ha hb).2 h |>.filter _).length_eq
theorem asc_ints_nodup {n : Nat} {pl : List Int} (h : PlOK n pl) : pl.Nodup := h.2.imp fun h => by omega
theorem nums_nodup {p pl : List Int} (hp : isP p = true) (h : PlOK p.length pl) : (nums p pl).Nodup := by
  have hnd := (isP_true.1 hp).2.2
  rw [List.nodup_iff_pairwise_ne, List.pairwise_iff_getElem]
  intro i j hi hj hij e
  rw [nums_length] at hi hj
  have e1 : at0 (nums p pl) i = at0 (nums p pl) j := by
    rw [at0_of (List.getElem?_eq_getElem (by rw [nums_length]; exact hi)), at0_of (List.getElem?_eq_getElem (by rw [nums_length]; exact hj))]; exact e
  rw [nums_at0 hi, nums_at0 hj] at e1
  have h1 := h.rng hi
  have h2 := h.rng hj
  have h3 := h.mono hij hj
  have g1 := inv_val hp (i := (at0 pl i).toNat - 1) (by omega)
  have g2 := inv_val hp (i := (at0 pl j).toNat - 1) (by omega)
  rw [e1, g2] at g1
  omega
theorem plInv_mem {p q pl : List Int} (h : pl ∈ occR p q) (x : Int) : x ∈ plInv p q pl ↔ x ∈ nums p pl := by
  obtain ⟨hp, hq, hl, hok, _⟩ := isOcc_iff.1 (mem_occ.1 h)
  constructor
  · intro hx
    obtain ⟨j, hj⟩ := List.getElem?_of_mem hx
    have hjl : j < q.length := by have := (List.getElem?_eq_some_iff.1 hj).1; rwa [plInv_length] at this
    have e := at0_of hj
    rw [plInv_at hjl] at e
    obtain ⟨i, hi, _, e2⟩ := inv_at hq hjl
    rw [e2, show ((i : Int) + 1).toNat - 1 = i by omega] at e
    rw [← e]
    exact List.mem_of_getElem? (at0_some (by rw [nums_length]; omega))
  · intro hx
    obtain ⟨i, hi⟩ := List.getElem?_of_mem hx
    have hil : i < q.length := by have := (List.getElem?_eq_some_iff.1 hi).1; rw [nums_length] at this; omega
    have hr := rng_at hq hil
    have e : at0 (plInv p q pl) ((at0 q i).toNat - 1) = x := by
      rw [plInv_at (by omega), inv_val hq hil, show ((i : Int) + 1).toNat - 1 = i by omega]
      exact at0_of hi
    rw [← e]
    exact List.mem_of_getElem? (at0_some (by rw [plInv_length]; omega))
theorem nums_inv_mem {p q pl : List Int} (h : pl ∈ occR p q) (x : Int) : x ∈ nums (invL p) (plInv p q pl) ↔ x ∈ pl := by
  obtain ⟨hp, hq, hl, hok, _⟩ := isOcc_iff.1 (mem_occ.1 h)
  have hin := (occ_inv h).2
  constructor
  · intro hx
    obtain ⟨j, hj⟩ := List.getElem?_of_mem hx
    have hjl : j < q.length := by have := (List.getElem?_eq_some_iff.1 hj).1; rwa [nums_length, plInv_length] at this
    obtain ⟨i, hi, e1, _⟩ := inv_at hq hjl
    have := hin i (by omega)
    rw [e1, show ((j : Int) + 1).toNat - 1 = j by omega, at0_of hj] at this
    rw [this]
    exact List.mem_of_getElem? (at0_some (by omega))
  · intro hx
    obtain ⟨i, hi⟩ := List.getElem?_of_mem hx
    have hil : i < pl.length := (List.getElem?_eq_some_iff.1 hi).1
    have hr := rng_at hq (show i < q.length by omega)
    have := hin i hil
    rw [at0_of hi] at this
    rw [← this]
    exact List.mem_of_getElem? (at0_some (by rw [nums_length, plInv_length]; omega))
/-- The boxes turned. -/
def swapB (s : List Int) : List Int := [at0 s 1, at0 s 0]
theorem mesh_inv_le {p q pl : List Int} {S R : List (List Int)} (h : pl ∈ occR p q) (hS : ∀ x y, [x, y] ∈ R → [y, x] ∈ S) (hf : fitsM p pl S = true) : fitsM (invL p) (plInv p q pl) R = true := by
  obtain ⟨hp, hq, hl, hok, _⟩ := isOcc_iff.1 (mem_occ.1 h)
  have h' := (occ_inv h).1
  obtain ⟨hp', hq', hl', hok', _⟩ := isOcc_iff.1 (mem_occ.1 h')
  rw [fitsM_iff] at hf ⊢
  intro v hv hn hm
  rw [invL_length] at hv
  obtain ⟨i, hi, e1, e2⟩ := inv_at hp hv
  have hni : ¬ (i : Int) + 1 ∈ pl := fun hmem => hn (by
    obtain ⟨k, hk⟩ := List.getElem?_of_mem hmem
    have hkl : k < pl.length := (List.getElem?_eq_some_iff.1 hk).1
    rw [plInv_mem h]
    have e : at0 (nums p pl) k = (v : Int) + 1 := by
      rw [nums_at0 hkl, at0_of hk, show ((i : Int) + 1).toNat - 1 = i by omega, e1]
    rw [← e]
    exact List.mem_of_getElem? (at0_some (by rw [nums_length]; exact hkl)))
  refine hf i hi hni ?_
  unfold boxAt at hm ⊢
  rw [nodup_cnt (asc_ints_nodup hok') (nums_nodup hp hok) (plInv_mem h), nodup_cnt (nums_nodup hp' hok') (asc_ints_nodup hok) (nums_inv_mem h), e2] at hm
  rw [e1]
  exact hS _ _ hm
theorem mesh_inv_count {p q : List Int} {S R : List (List Int)} (hS : ∀ x y, [x, y] ∈ R → [y, x] ∈ S) : (meshR p q S).length ≤ (meshR (invL p) (invL q) R).length :=
  inject_le (plInv p q) ((asc_nodup (occ_asc p q)).sublist List.filter_sublist) (fun pl h => by
    unfold meshR at h ⊢
    rw [List.mem_filter] at h ⊢
    exact ⟨(occ_inv h.1).1, mesh_inv_le h.1 hS h.2⟩) fun x hx y hy e => by
    unfold meshR at hx hy
    rw [List.mem_filter] at hx hy
    have h1 := (isOcc_iff.1 (mem_occ.1 hx.1)).2.2.1
    have h2 := (isOcc_iff.1 (mem_occ.1 hy.1)).2.2.1
    refine ext_at0 (by omega) fun i hi => ?_
    rw [← (occ_inv hx.1).2 i hi, e, (occ_inv hy.1).2 i (by omega)]
theorem mesh_inv {p q : List Int} {S R : List (List Int)} (hp : isP p = true) (hq : isP q = true) (hS : ∀ x y, [x, y] ∈ R ↔ [y, x] ∈ S) : (meshR (invL p) (invL q) R).length = (meshR p q S).length := by
  have h1 := mesh_inv_count (p := p) (q := q) (S := S) (R := R) fun x y h => (hS x y).1 h
  have h2 := mesh_inv_count (p := invL p) (q := invL q) (S := R) (R := S) fun x y h => (hS y x).2 h
  rw [inv_inv hp, inv_inv hq] at h2
  omega
end Go.Proofs.Ytcoegjhhhnfplaa


/-
  WORDS FOR MEMORY: a slice that reads as a list of values (nil let in), and what keeps it; a row of the call's own. Plain lemmas: nothing here speaks of the program.
-/

namespace Go.Proofs.Ytcoegjhhhnfplaa
set_option maxRecDepth 100000
open Go.RowKit

theorem block_of_add (a : Addr) (n : Nat) : (a.add n).block = a.block := by unfold Addr.add; split <;> rfl
theorem add_of_add (a : Addr) (i j : Nat) : (a.add i).add j = a.add (i + j) := by
  unfold Addr.add
  by_cases hi : i = 0 <;> by_cases hj : j = 0 <;> simp [hi, hj, Nat.add_assoc]

/-- The slice value '.slice A n c' holds the one-cell values xs, below block B. -/
def Reads (w : World) (B : Nat) (A : Option Addr) (n : Nat) (xs : List Value) : Prop :=
  xs.length = n ∧ (0 < n → ∃ ad, A = some ad ∧ ad.block < B ∧ ∀ j u, xs[j]? = some u → w.cell? (ad.add j) = some u)

section
variable {w w' : World} {B B' n : Nat} {A : Option Addr} {xs : List Value}
theorem Reads.none_ : Reads w B A 0 [] := ⟨rfl, fun h => absurd h (by omega)⟩
theorem Reads.at_ {k : Nat} (h : Reads w B A n xs) (hk : k < n) : ∃ ad u, A = some ad ∧ ad.block < B ∧ xs[k]? = some u ∧ w.cell? (ad.add k) = some u := by
  obtain ⟨ad, e, hb, hc⟩ := h.2 (by omega)
  have hl : k < xs.length := by have := h.1; omega
  exact ⟨ad, xs[k], e, hb, List.getElem?_eq_getElem hl, hc k _ (List.getElem?_eq_getElem hl)⟩
theorem Reads.keep (h : Reads w B A n xs) (hk : ∀ p : Addr, p.block < B → w'.cell? p = w.cell? p) : Reads w' B A n xs :=
  ⟨h.1, fun hn => by
    obtain ⟨ad, e, hb, hc⟩ := h.2 hn
    exact ⟨ad, e, hb, fun j u hu => (hk _ (by rw [block_of_add]; exact hb)).trans (hc j u hu)⟩⟩
theorem Reads.more (h : Reads w B A n xs) (hB : B ≤ B') : Reads w B' A n xs :=
  ⟨h.1, fun hn => by
    obtain ⟨ad, e, hb, hc⟩ := h.2 hn
    exact ⟨ad, e, by omega, hc⟩⟩
theorem Reads.below (h : Reads w B A n xs) (hb : Below B w w') : Reads w' B A n xs := h.keep fun _ hp => hb.cell hp
theorem Reads.drew (h : Reads w B A n xs) : Reads w.drew B A n xs := h
theorem Reads.drewN (h : Reads w B A n xs) (k : Nat) : Reads (w.drewN k) B A n xs := h
theorem Reads.alloc (h : Reads w B A n xs) (hB : B ≤ w.heap.size) (o : Obj) : Reads (w.alloc o) B A n xs := h.keep fun p hp => World.cell?_alloc_lt w o p (by omega)
theorem Reads.setCell (h : Reads w B A n xs) {p : Addr} (hB : B ≤ p.block) (u : Value) : Reads (w.setCell p u) B A n xs :=
  h.keep fun q hq => World.cell?_setCell_other w p q u (fun e => by subst e; omega)
theorem Reads.grown (h : Reads w B A n xs) {row : Option Nat} (hg : w.grownBy w' row) (hB : B ≤ w.heap.size) (hr : ∀ g, row = some g → B ≤ g) : Reads w' B A n xs :=
  h.keep fun p hp => World.cell?_of_block (hg.block p.block (by omega) (fun e => by have := hr _ e.symm; omega))
theorem Reads.of_own {base : Nat} {e : TypeId} {v : Value} (h : w.ownsRow base e 1 v n xs) : ∃ A c, v = .slice A n c ∧ Reads w w.heap.size A n xs := by
  rcases h.2 with ⟨rfl, rfl⟩ | ⟨g, cap, cur, rfl, hb, hg, hnc, hcm, hsz, htake⟩
  · exact ⟨none, 0, rfl, by simpa using h.1, fun hn => by omega⟩
  · refine ⟨_, _, rfl, by simpa using h.1, fun _ => ⟨_, rfl, (Array.getElem?_eq_some_iff.1 hg).1, fun j u hu => h.cells (g := g) rfl j u hu⟩⟩
theorem Reads.of_own_at {base : Nat} {e : TypeId} {c : Nat} (h : w.ownsRow base e 1 (.slice A n c) n xs) : Reads w w.heap.size A n xs := by
  obtain ⟨A', c', hv, hr⟩ := Reads.of_own h
  injection hv with h1 h2 h3
  subst h1
  exact hr
end

/-- Two calls, one behind the other: what lay before the first stands behind the second. -/
theorem below_after {w0 w1 w2 : World} (h1 : Below w0.heap.size w0 w1) (h2 : Below w1.heap.size w1 w2) : Below w0.heap.size w0 w2 := h1.trans (h2.mono h1.size)

/-- 'out = append(out, x)', x one cell: out a row of the call's own. -/
theorem wpList_append_one {P : Program} {ops : Array Oper} {rest : List Oper} {o : Oper} {a : Act} {W : World} {Q : Exit → Act → World → Prop} (hgd : o.guard = none) (sl x : Operand) (t : TypeId)
    (ho : o.op = .call { callee := .builtin .append, args := #[sl, x], argTypes := #[t, t] })
    (base : Nat) (e : TypeId) (i : TypeInfo) (z : Value) (bytes : Nat) (ht : P.underlying t = some (.slice e)) (hi : P.info? e = some i) (hz : i.zero = some z) (hsize : i.size = 1) (hby : i.bytes = bytes) (hzs : z.cells.size = 1)
    (w0 wr : World) (v : Value) (n : Nat) (xs : List Value) (hs : a.eval sl = v) (hown : wr.ownsRow base e 1 v n xs) (y : Value) (hx : a.eval x = .slice (some ⟨wr.heap.size, 0, none⟩) 1 1) (hW : W = wr.alloc (.cells #[y] e)) (h1 : y.oneCell' = true)
    (hbytes : (n + 1) * bytes ≤ 140737488355328) (hn : n + 1 ≤ maxLen) (hb : Below base w0 wr) (hbase : base ≤ wr.heap.size)
    (h : ∀ v' w', w'.ownsRow base e 1 v' (n + 1) (xs ++ [y]) → Below base w0 w' → wr.grownBy w' v.ownBlock → wpList P ops Q rest (a.put o.dst v') w') : wpList P ops Q (o :: rest) a W := by
  subst hW
  refine wpList_append_own _ hgd sl x t ho base e i z 1 bytes ht hi hz hsize hby hzs (by decide) v n xs hs (hown.alloc _) ⟨wr.heap.size, 0, none⟩ 1 1 [y] hx rfl ?_ ?_ hn hbytes (by simp; omega) ?_
  · intro j u hj
    match j, hj with
    | 0, hj => simp at hj; subst hj; simp [Addr.add]
  · intro u hu
    obtain rfl := List.mem_singleton.1 hu
    exact h1
  · intro v' w' h2 h3 _
    refine h v' w' h2 ?_ ?_
    · exact (hb.alloc hbase _).grown h3 (by simp; omega) (fun k hk => (hown.lt k hk).1)
    · exact ⟨h3.os, h3.tape, h3.output, Nat.le_trans (by simp) h3.size, fun k hk hne => (h3.block k (by simp; omega) hne).trans (Below.heap_alloc wr _ k hk)⟩

theorem grown_of_below {w w' : World} (h : Below w.heap.size w w') (row : Option Nat) : w.grownBy w' row := ⟨h.os, h.tape, h.output, h.size, fun i hi _ => h.block i hi⟩
theorem own_below {w w' : World} {base n size : Nat} {e : TypeId} {v : Value} {xs : List Value} (h : w.ownsRow base e size v n xs) (hb : Below w.heap.size w w') : w'.ownsRow base e size v n xs :=
  h.kept (grown_of_below hb none) (by cases hv : v.ownBlock <;> simp)
theorem grown_then {a b c : World} {row : Option Nat} (h : a.grownBy b row) (k : b.grownBy c row) : a.grownBy c row :=
  ⟨k.os.trans h.os, k.tape.trans h.tape, k.output.trans h.output, Nat.le_trans h.size k.size, fun i hi hne => (k.block i (Nat.lt_of_lt_of_le hi h.size) hne).trans (h.block i hi hne)⟩
theorem below_of_grown {B : Nat} {a b : World} {row : Option Nat} (h : a.grownBy b row) (hB : B ≤ a.heap.size) (hr : ∀ k, row = some k → B ≤ k) : Below B a b := (Below.refl _ _).grown h hB hr
/-- A slice that reads below B, behind a change of one row at or above B. -/
theorem Reads.row {w w' : World} {B n : Nat} {A : Option Addr} {xs : List Value} (h : Reads w B A n xs) {g : Nat} (hg : w.grownBy w' (some g)) (hB : B ≤ w.heap.size) (hr : B ≤ g) : Reads w' B A n xs :=
  h.grown hg hB (fun k hk => by injection hk with hk; omega)

theorem keep_cell {wr w : World} {p : Addr} {v : Value} (h : wr.cell? p = some v) (hp : p.block < wr.heap.size) (hb : Below wr.heap.size wr w) : w.cell? p = some v ∧ Below wr.heap.size wr w := ⟨(hb.cell hp).trans h, hb⟩

/-- Bytes, integers as cells. -/
def u8s (bs : List UInt8) : List Value := bs.map fun b => .int .u8 b.toNat
theorem u8_at {bs : List UInt8} {k : Nat} {u : Value} (h : (u8s bs)[k]? = some u) : ∃ b : UInt8, bs[k]? = some b ∧ u = .int .u8 b.toNat := by
  unfold u8s at h
  rw [List.getElem?_map] at h
  cases hs : bs[k]? with
  | none => simp [hs] at h
  | some s => simp [hs] at h; exact ⟨s, rfl, h.symm⟩
def i64s (zs : List Int) : List Value := zs.map (Value.int .i64)
theorem i64_at {zs : List Int} {k : Nat} {u : Value} (h : (i64s zs)[k]? = some u) : ∃ z, zs[k]? = some z ∧ u = .int .i64 z := by
  unfold i64s at h
  rw [List.getElem?_map] at h
  cases hs : zs[k]? with
  | none => simp [hs] at h
  | some s => simp [hs] at h; exact ⟨s, rfl, h.symm⟩

/-- Nothing but draws. -/
def Drew (w w' : World) : Prop := ∃ n : Nat, w' = w.drewN n
theorem Drew.refl (w : World) : Drew w w := ⟨0, rfl⟩
theorem Drew.of_eq {w w' : World} (h : w' = w) : Drew w w' := by subst h; exact Drew.refl _
theorem Drew.more {w w' : World} (h : Drew w w') (k : Nat) : Drew w (w'.drewN k) := by
  obtain ⟨n, rfl⟩ := h
  exact ⟨n + k, by rw [World.drewN_drewN]⟩
theorem Drew.trans {a b c : World} (h : Drew a b) (k : Drew b c) : Drew a c := by
  obtain ⟨n, rfl⟩ := k
  exact h.more n
theorem Drew.cell {w w' : World} (h : Drew w w') (p : Addr) : w'.cell? p = w.cell? p := by obtain ⟨n, rfl⟩ := h; rfl
theorem Drew.size {w w' : World} (h : Drew w w') : w'.heap.size = w.heap.size := by obtain ⟨n, rfl⟩ := h; rfl
theorem Drew.below {w w' : World} (h : Drew w w') (B : Nat) : Below B w w' := by
  obtain ⟨n, rfl⟩ := h
  exact ⟨rfl, rfl, rfl, Nat.le_refl _, fun _ _ => rfl⟩
theorem Reads.ofDrew {w w' : World} {B n : Nat} {A : Option Addr} {xs : List Value} (h : Reads w B A n xs) (hd : Drew w w') : Reads w' B A n xs := h.keep fun p _ => hd.cell p

theorem size_list' (s : ByteArray) : s.data.toList.length = s.size := by rw [Array.length_toList]; rfl
theorem ret_int {k : IntKind} {a b : Int} (h : a = b) : Ending.returned (.int k a) = .returned (.int k b) := by rw [h]
theorem ret_bool {a b : Bool} (h : a = b) : Ending.returned (.bool a) = .returned (.bool b) := by rw [h]
theorem ret_str {a b : ByteArray} (h : a = b) : Ending.returned (.string a) = .returned (.string b) := by rw [h]
theorem hide {p : Prop} (h : p) : Hid p := h
theorem unhide {p : Prop} (h : Hid p) : p := h
end Go.Proofs.Ytcoegjhhhnfplaa


/-
  CONTRACTS OF THE LAWS' HELPERS OVER []int: toIntS, eqIntS, markIntS, heldIntS; and the words for them.
-/

namespace Go.Proofs.Ytcoegjhhhnfplaa
set_option maxRecDepth 100000
open Go.RowKit

/-- Numbers of 64 bits. -/
def Small (zs : List Int) : Prop := ∀ z ∈ zs, -9223372036854775808 ≤ z ∧ z ≤ 9223372036854775807
theorem i64_get {zs : List Int} {k : Nat} {z : Int} (h : zs[k]? = some z) : (i64s zs)[k]? = some (.int .i64 z) := by
  unfold i64s; rw [List.getElem?_map, h]; rfl
theorem i64_length (zs : List Int) : (i64s zs).length = zs.length := by unfold i64s; rw [List.length_map]
theorem i64_inj {xs ys : List Int} (h : i64s xs = i64s ys) : xs = ys := by
  refine List.ext_getElem? fun i => ?_
  have e := congrArg (fun l => l[i]?) h
  simp only [i64s, List.getElem?_map] at e
  cases hx : xs[i]? <;> cases hy : ys[i]? <;> simp_all
theorem take_set_i {α : Type} {xs ys : List α} {k : Nat} {u : α} (h : xs.take k = ys.take k) (hu : ys[k]? = some u) (hl : k < xs.length) : (xs.set k u).take (k + 1) = ys.take (k + 1) := by
  rw [List.take_add_one, List.take_add_one, List.take_set_of_le (Nat.le_refl _), h]
  simp [hu, hl]
theorem below_set_i {B : Nat} {w w' : World} {e : TypeId} {size : Nat} {g cap n : Nat} {xs : List Value} (hb : Below B w w') (hown : w'.ownsRow B e size (.slice (some ⟨g, 0, none⟩) n cap) n xs) (j : Nat) (u : Value) : Below B w (w'.setCell ⟨g, j, none⟩ u) :=
  hb.setCell (hown.lt g rfl).1 _
theorem intInfo : (Try.prog.info? 3).map (fun i => (i.zero, i.size, i.bytes)) = some (some (.int .i64 0), 1, 8) := by kernel_rfl

/-- A row from block B on whose first n cells are these: it may be read and written, whatever its type and its room. -/
def Row (w : World) (B : Nat) (v : Value) (n : Nat) (xs : List Value) : Prop :=
  xs.length = n ∧ ((v = .slice none 0 0 ∧ n = 0) ∨ ∃ g cap cur e, v = .slice (some ⟨g, 0, none⟩) n cap ∧ B ≤ g ∧ w.heap[g]? = some (.cells cur e (0, 0)) ∧ (n ≤ cap ∧ n ≤ cur.size) ∧ cur.toList.take n = xs ∧ e ≠ 24)
section
variable {w w' : World} {B n : Nat} {v : Value} {xs : List Value}
theorem Row.of_own {e : TypeId} (h : w.ownsRow B e 1 v n xs) (he : e ≠ 24) : Row w B v n xs := by
  refine ⟨by simpa using h.1, ?_⟩
  rcases h.2 with h0 | ⟨g, cap, cur, hv, hb, hg, hnc, _, hs, ht⟩
  · exact .inl h0
  · exact .inr ⟨g, cap, cur, e, hv, hb, hg, ⟨hnc, by omega⟩, by simpa using ht, he⟩
theorem Row.lt (h : Row w B v n xs) : ∀ k, v.ownBlock = some k → B ≤ k ∧ k < w.heap.size := by
  intro k hk
  rcases h.2 with ⟨rfl, _⟩ | ⟨g, cap, cur, e, rfl, hb, hg, _⟩
  · simp [Value.ownBlock] at hk
  · simp [Value.ownBlock] at hk
    subst hk
    exact ⟨hb, (Array.getElem?_eq_some_iff.1 hg).1⟩
theorem Row.kept {row : Option Nat} (h : Row w B v n xs) (hg : w.grownBy w' row) (hne : v.ownBlock = none ∨ v.ownBlock ≠ row) : Row w' B v n xs := by
  refine ⟨h.1, ?_⟩
  rcases h.2 with hn | ⟨g, cap, cur, e, rfl, hb, hgg, rest⟩
  · exact .inl hn
  · refine .inr ⟨g, cap, cur, e, rfl, hb, ?_, rest⟩
    rw [hg.block g (Array.getElem?_eq_some_iff.1 hgg).1 (by simpa [Value.ownBlock] using hne)]
    exact hgg
theorem Row.cells {g : Nat} (h : Row w B v n xs) (hv : v.ownBlock = some g) (j : Nat) (hj : j < n) : w.cell? ⟨g, j, none⟩ = xs[j]? := by
  rcases h.2 with ⟨rfl, _⟩ | ⟨g', cap, cur, e, rfl, hb, hg, _, ht, _⟩
  · simp [Value.ownBlock] at hv
  · simp [Value.ownBlock] at hv
    subst hv
    rw [cell_of_row w g' j cur e (0, 0) hg, ← ht, List.getElem?_take, if_pos hj]
    simp
theorem Row.frozen {g : Nat} (h : Row w B v n xs) (hv : v.ownBlock = some g) (j : Nat) : w.frozen? ⟨g, j, none⟩ = false := by
  rcases h.2 with ⟨rfl, _⟩ | ⟨g', cap, cur, e, rfl, hb, hg, _⟩
  · simp [Value.ownBlock] at hv
  · simp [Value.ownBlock] at hv
    subst hv
    exact frozen_of_row w g' j cur e hg
theorem Row.stored {g : Nat} (h : Row w B v n xs) (hv : v.ownBlock = some g) (j : Nat) (u : Value) : Row (w.setCell ⟨g, j, none⟩ u) B v n (xs.set j u) ∧ w.grownBy (w.setCell ⟨g, j, none⟩ u) (some g) := by
  rcases h.2 with ⟨rfl, _⟩ | ⟨g', cap, cur, e, rfl, hb, hg, hs, ht, he⟩
  · simp [Value.ownBlock] at hv
  · simp [Value.ownBlock] at hv
    subst hv
    refine ⟨⟨by simpa using h.1, .inr ⟨g', cap, cur.setIfInBounds j u, e, rfl, hb, heap_setCell_same w g' j cur e u hg, ⟨hs.1, by simpa using hs.2⟩, ?_, he⟩⟩, ⟨rfl, rfl, rfl, by simp, fun k _ hk => Below.heap_setCell w _ u k (fun he => hk (by rw [he]))⟩⟩
    rw [Array.toList_setIfInBounds, List.take_set, ht]
theorem Row.reads {c : Nat} {A : Option Addr} (h : Row w B (.slice A n c) n xs) : Reads w w.heap.size A n xs := by
  rcases h.2 with ⟨hv, h0⟩ | ⟨g, cap, cur, e, hv, hb, hg, hs, ht, _⟩
  · exact ⟨h.1, fun hn => by omega⟩
  · injection hv with hA _ _
    subst hA
    refine ⟨h.1, fun _ => ⟨_, rfl, (Array.getElem?_eq_some_iff.1 hg).1, fun j u hu => ?_⟩⟩
    have hj : j < n := by have := (List.getElem?_eq_some_iff.1 hu).1; have := h.1; omega
    rw [show (⟨g, 0, none⟩ : Addr).add j = ⟨g, j, none⟩ by unfold Addr.add; split <;> simp_all, h.cells (g := g) rfl j hj]
    exact hu
end
theorem Row.cap {w : World} {B n c : Nat} {A : Option Addr} {xs : List Value} (h : Row w B (.slice A n c) n xs) : n ≤ c := by
  rcases h.2 with ⟨hv, h0⟩ | ⟨g, cap, cur, e, hv, _, _, hs, _⟩
  · omega
  · injection hv with _ _ hc
    rw [hc]; exact hs.1
/-- A row of the call's own that holds these numbers. -/
def Ints (w : World) (B : Nat) (v : Value) (zs : List Int) : Prop := Row w B v zs.length (i64s zs)
theorem Ints.of_own {w : World} {B n : Nat} {v : Value} {zs : List Int} (h : w.ownsRow B 3 1 v n (i64s zs)) : Ints w B v zs := by
  have hn : zs.length = n := by have := h.1; rw [i64_length] at this; omega
  unfold Ints
  rw [hn]
  exact Row.of_own h (by decide)
theorem Ints.slice {w : World} {B : Nat} {v : Value} {zs : List Int} (h : Ints w B v zs) : ∃ A c, v = .slice A zs.length c := by
  rcases h.2 with ⟨rfl, hz⟩ | ⟨g, cap, cur, e, rfl, _⟩
  · exact ⟨none, 0, by rw [hz]⟩
  · exact ⟨_, _, rfl⟩
theorem Ints.len {w : World} {B n c : Nat} {A : Option Addr} {zs : List Int} (h : Ints w B (.slice A n c) zs) : zs.length = n := by
  obtain ⟨A', c', hv⟩ := h.slice
  injection hv with _ h2; exact h2.symm
theorem Ints.cap {w : World} {B n c : Nat} {A : Option Addr} {zs : List Int} (h : Ints w B (.slice A n c) zs) : n ≤ c := by
  obtain rfl := h.len
  exact Row.cap h
theorem Ints.reads {w : World} {B n c : Nat} {A : Option Addr} {zs : List Int} (h : Ints w B (.slice A n c) zs) : Reads w w.heap.size A n (i64s zs) := by
  have hn : n = zs.length := by
    rcases h.2 with ⟨hv, hz⟩ | ⟨g, cap, cur, e, hv, _⟩
    · injection hv with _ h2; omega
    · injection hv
  subst hn
  exact Row.reads h
theorem Ints.below {w w' : World} {B : Nat} {v : Value} {zs : List Int} (h : Ints w B v zs) (hb : Below w.heap.size w w') : Ints w' B v zs := Row.kept h (grown_of_below hb none) (by cases hv : v.ownBlock <;> simp)
theorem Ints.kept {w w' : World} {B : Nat} {v : Value} {zs : List Int} (h : Ints w B v zs) {row : Option Nat} (hg : w.grownBy w' row) (hne : v.ownBlock = none ∨ v.ownBlock ≠ row) : Ints w' B v zs := Row.kept h hg hne
theorem Ints.low {w : World} {B B' : Nat} {v : Value} {zs : List Int} (h : Ints w B v zs) (hB : B' ≤ B) : Ints w B' v zs :=
  ⟨h.1, by
    rcases h.2 with h0 | ⟨g, cap, cur, e, hv, hb, hr⟩
    · exact .inl h0
    · exact .inr ⟨g, cap, cur, e, hv, Nat.le_trans hB hb, hr⟩⟩
theorem own0 (w : World) (B : Nat) (hB : B ≤ w.heap.size) : (w.alloc (.cells #[] 3)).ownsRow B 3 1 (.slice (some ⟨w.heap.size, 0, none⟩) 0 0) 0 [] :=
  World.ownsRow_made (base := B) (e := 3) (size := 1) w #[] 0 hB (by simp [maxLen]) rfl
theorem Ints.made0 (w : World) (B : Nat) (hB : B ≤ w.heap.size) : Ints (w.alloc (.cells #[] 3)) B (.slice (some ⟨w.heap.size, 0, none⟩) 0 0) [] := Ints.of_own (zs := []) (own0 w B hB)
theorem Ints.nil (w : World) (B : Nat) : Ints w B (.slice none 0 0) [] := ⟨rfl, .inl ⟨rfl, rfl⟩⟩
/-- Where the block lies. -/
def Since (B : Nat) (v : Value) : Prop := ∀ k, v.ownBlock = some k → B ≤ k
def Until (B : Nat) (v : Value) : Prop := ∀ k, v.ownBlock = some k → k < B
theorem Ints.since {w : World} {B : Nat} {v : Value} {zs : List Int} (h : Ints w B v zs) : Since B v := fun k hk => (Row.lt h k hk).1
theorem Ints.until_ {w : World} {B : Nat} {v : Value} {zs : List Int} (h : Ints w B v zs) : Until w.heap.size v := fun k hk => (Row.lt h k hk).2
theorem Since.mono {B B' : Nat} {v : Value} (h : Since B v) (hb : B' ≤ B) : Since B' v := fun k hk => Nat.le_trans hb (h k hk)
theorem Until.mono {B B' : Nat} {v : Value} (h : Until B v) (hb : B ≤ B') : Until B' v := fun k hk => Nat.lt_of_lt_of_le (h k hk) hb
theorem apart {B B' : Nat} {u v : Value} (hu : Until B u) (hv : Since B' v) (hb : B ≤ B') : u.ownBlock = none ∨ u.ownBlock ≠ v.ownBlock := by
  cases h : u.ownBlock with
  | none => exact .inl rfl
  | some k => exact .inr fun e => by have := hu k h; have := hv k e.symm; omega
theorem apart' {B B' : Nat} {u v : Value} (hu : Since B' u) (hv : Until B v) (hb : B ≤ B') : u.ownBlock = none ∨ u.ownBlock ≠ v.ownBlock := by
  cases h : u.ownBlock with
  | none => exact .inl rfl
  | some k => exact .inr fun e => by have := hv k e.symm; have := hu k h; omega
theorem below_row {B : Nat} {w0 w w' : World} {v : Value} (hb : Below B w0 w) (hg : w.grownBy w' v.ownBlock) (hB : B ≤ w.heap.size) (hs : Since B v) : Below B w0 w' := hb.grown hg hB hs

theorem made_zeros (n : Nat) : (madeCells (Value.int .i64 0).cells (n * 1)).toList = i64s (List.replicate n 0) := by
  rw [Nat.mul_one]
  unfold i64s
  rw [List.map_replicate]
  exact toList_madeCells_one _ _

def GivesI (w : World) (zs : List Int) (e : Ending) (w' : World) : Prop := ∃ A c, e = .returned (.slice A zs.length c) ∧ Ints w' w.heap.size (.slice A zs.length c) zs ∧ Below w.heap.size w w'
def GivesIB (w : World) (zs : List Int) (b : Bool) (e : Ending) (w' : World) : Prop := ∃ A c, e = .returned (.tuple #[.slice A zs.length c, .bool b]) ∧ Ints w' w.heap.size (.slice A zs.length c) zs ∧ Below w.heap.size w w'
theorem GivesI.mk {w w' : World} {v : Value} {zs : List Int} (h : Ints w' w.heap.size v zs) (hb : Below w.heap.size w w') : GivesI w zs (.returned v) w' := by
  obtain ⟨A, c, rfl⟩ := h.slice
  exact ⟨A, c, rfl, h, hb⟩
theorem GivesIB.mk {w w' : World} {v : Value} {zs : List Int} (b : Bool) (h : Ints w' w.heap.size v zs) (hb : Below w.heap.size w w') : GivesIB w zs b (.returned (.tuple #[v, .bool b])) w' := by
  obtain ⟨A, c, rfl⟩ := h.slice
  exact ⟨A, c, rfl, h, hb⟩

def GivesB (w : World) (b : Bool) (e : Ending) (w' : World) : Prop := e = .returned (.bool b) ∧ Below w.heap.size w w'
def GivesS (w : World) (s : ByteArray) (e : Ending) (w' : World) : Prop := e = .returned (.string s) ∧ Below w.heap.size w w'
def GivesN (w : World) (z : Int) (e : Ending) (w' : World) : Prop := e = .returned (.int .i64 z) ∧ Below w.heap.size w w'
/-- A list of integers as an argument: it reads below B, it is not long, its numbers have 64 bits. -/
structure Arg (w : World) (B : Nat) (A : Option Addr) (n c : Nat) (zs : List Int) : Prop where
  reads : Reads w B A n (i64s zs)
  under : B ≤ w.heap.size
  le : n ≤ 1048576
  cap : n ≤ c
  small : Small zs
  nil : A = none → c = 0
theorem Arg.len {w : World} {B n c : Nat} {A : Option Addr} {zs : List Int} (h : Arg w B A n c zs) : zs.length = n := by have := h.reads.1; rwa [i64_length] at this
theorem Arg.below {w w' : World} {B n c : Nat} {A : Option Addr} {zs : List Int} (h : Arg w B A n c zs) (hb : Below w.heap.size w w') : Arg w' B A n c zs :=
  ⟨h.reads.below (hb.mono h.under), Nat.le_trans h.under hb.size, h.le, h.cap, h.small, h.nil⟩
theorem Arg.more {w : World} {B B' n c : Nat} {A : Option Addr} {zs : List Int} (h : Arg w B A n c zs) (hB : B ≤ B') (hu : B' ≤ w.heap.size) : Arg w B' A n c zs := ⟨h.reads.more hB, hu, h.le, h.cap, h.small, h.nil⟩
theorem Ints.arg {w : World} {B n c : Nat} {A : Option Addr} {zs : List Int} (h : Ints w B (.slice A n c) zs) (hn : n ≤ 1048576) (hc : n ≤ c) (hz : Small zs) : Arg w w.heap.size A n c zs := ⟨h.reads, Nat.le_refl _, hn, hc, hz, fun hA => by
  rcases h.2 with ⟨hv, _⟩ | ⟨g, cap, cur, e, hv, _⟩
  · injection hv
  · injection hv with h1; rw [h1] at hA; cases hA⟩
theorem small_of_wf {zs : List Int} (h : ∀ z ∈ zs, (Lit.int .i64 z).wf = true) : Small zs := fun z hz => by
  simpa [Lit.wf, IntKind.min, IntKind.max, IntKind.signed, IntKind.bits] using h z hz
theorem cellsInt : Try.prog.cellsOf 3 = 1 := by kernel_rfl

set_option maxHeartbeats 400000 in
/-- toIntS: a row of the call's own with the same numbers. -/
theorem toi_any (A : Option Addr) (n c B : Nat) (zs : List Int) (w : World) (hr : Reads w B A n (i64s zs)) (hB : B ≤ w.heap.size) (hn : n ≤ 1099511627776) :
    Calls Try.prog 33 #[.slice A n c] w fun e w' => e = .returned (.slice (some ⟨w.heap.size, 0, none⟩) n n) ∧ Ints w' w.heap.size (.slice (some ⟨w.heap.size, 0, none⟩) n n) zs ∧ Below w.heap.size w w' := by
  obtain ⟨i0, hi, hz0, hz1, hz2⟩ := info_parts intInfo
  go_enter Try.func33, Try.ntmps33
  go_wp2_with (first
    | (at_make; refine wpList_make_full _ rfl (.tmp 6) (.tmp 6) 24 rfl w.heap.size 3 i0 (.int .i64 0) 1 Try.underlying24 hi hz0 hz1 _ _ _ _ n rfl rfl (by first | rfl | omega) (by first | rfl | omega) (by rw [hz2]; omega) (by unfold maxLen; omega) (Nat.le_refl _) ?_; intro w1 hown hg))
  have hb1 : Below w.heap.size w w1 := (Below.refl _ _).grown hg (Nat.le_refl _) (by simp)
  clear hg
  go_loopw [4] (fun i wr => ∃ (k : Nat) (xs : List Value), k ≤ n ∧ i = .int .i64 k ∧ Below w.heap.size w wr ∧ wr.ownsRow w.heap.size 3 1 (.slice (some ⟨w.heap.size, 0, none⟩) n n) n xs ∧ Hid (xs.take k = (i64s zs).take k)) (fun i _ => n - (intOf i).toNat)
  case atStart => exact ⟨0, _, Nat.zero_le _, rfl, hb1, hown, by exact rfl⟩
  case round =>
    obtain ⟨k, xs, hk, rfl, hb, hown', hx⟩ := hrel
    clear hown hb1
    by_cases hlt : k < n
    · obtain ⟨ad, u, rfl, had, hu, hc⟩ := ((hr.more hB).below hb).at_ hlt
      obtain ⟨s, hs, rfl⟩ := i64_at hu
      have hl : xs.length = n := by simpa using hown'.1
      obtain ⟨old, hold⟩ : ∃ old, wr.cell? ⟨w.heap.size, k, none⟩ = some old := ⟨_, by rw [hown'.cellAt k (by omega)]; exact List.getElem?_eq_getElem (by omega)⟩
      have hfz := hown'.frozenAt k
      have hst := hide (take_set_i (unhide hx) hu (by omega))
      have ho2 := (hown'.stored k (.int .i64 s)).1
      have hb2 := below_set_i hb hown' k (.int .i64 s)
      have hkn : k + 1 ≤ n := by omega
      clear hx hu hs hown' hb hl
      go_wp2
      go_roundw
      case rel => exact ⟨k + 1, _, hkn, by go_num, hb2, ho2, hst⟩
      case measure => simp [intOf]; omega
    · obtain rfl : n = k := by omega
      have hlx : xs.length = n := by simpa using hown'.1
      have hlr : zs.length = n := by have := hr.1; rwa [i64_length] at this
      have : xs = i64s zs := by
        have h := unhide hx
        rwa [List.take_of_length_le (by omega), List.take_of_length_le (by rw [i64_length]; omega)] at h
      subst this
      have hI : Ints wr w.heap.size (.slice (some ⟨w.heap.size, 0, none⟩) n n) zs := Ints.of_own hown'
      clear hx hlx hlr hown'
      go_wp2
      go_ret
      exact ⟨rfl, hI, hb⟩
set_option maxHeartbeats 400000 in
/-- eqIntS: equal lists. -/
theorem eqi_any (A A' : Option Addr) (n c n' c' B B' : Nat) (zs : List Int) (w : World) (hr : Reads w B A n (i64s zs)) (hr' : Reads w B' A' n' (i64s zs)) (hn : n ≤ 1099511627776) :
    Calls Try.prog 34 #[.slice A n c, .slice A' n' c'] w fun e w' => e = .returned (.bool true) ∧ Drew w w' := by
  have e1 : zs.length = n := by have := hr.1; rwa [i64_length] at this
  have e2 : zs.length = n' := by have := hr'.1; rwa [i64_length] at this
  obtain rfl : n = n' := by omega
  clear e1 e2
  go_enter Try.func34, Try.ntmps34
  go_wp2
  go_loopw [5] (fun i wr => ∃ k : Nat, k ≤ n ∧ i = .int .i64 k ∧ Drew w wr) (fun i _ => n - (intOf i).toNat)
  case atStart => exact ⟨0, Nat.zero_le _, rfl, Drew.refl _⟩
  case round =>
    obtain ⟨k, hk, rfl, hd⟩ := hrel
    by_cases hlt : k < n
    · obtain ⟨ad, u, rfl, _, hx, hc⟩ := (hr.ofDrew hd).at_ hlt
      obtain ⟨ad', u', rfl, _, hx', hc'⟩ := (hr'.ofDrew hd).at_ hlt
      obtain ⟨s, hs, rfl⟩ := i64_at hx
      obtain ⟨s', hs', rfl⟩ := i64_at hx'
      obtain rfl : s = s' := by rw [hs] at hs'; exact Option.some.inj hs'
      clear hx hx' hs hs' hr hr'
      have HD := hide hd
      clear hd
      go_wp2
      go_quiet (fail)
      go_wp2
      go_roundw
      case rel => exact ⟨k + 1, by omega, by go_num, (unhide HD).more _⟩
      case measure => simp [intOf]; omega
    · go_wp2
      go_ret
      exact ⟨rfl, hd⟩
/-- The marks from k on. -/
def marksI (k n : Nat) : List Int := (List.range n).map fun j => ((k + j : Nat) : Int)
theorem marksI_length (k n : Nat) : (marksI k n).length = n := by simp [marksI]
theorem marksI_at {k n j : Nat} (h : j < n) : (marksI k n)[j]? = some ((k + j : Nat) : Int) := by simp [marksI, h]
set_option maxHeartbeats 800000 in
/-- markIntS at a row of the call's own. -/
theorem marki_any (A : Option Addr) (n c base k : Nat) (zs : List Int) (w : World) (hown : Ints w base (.slice A n c) zs) (hkn : k + n ≤ 1099511627776) :
    Calls Try.prog 78 #[.slice A n c, .int .i64 k] w fun e w' => e = .returned (.int .i64 ((k + n : Nat) : Int)) ∧
      Ints w' base (.slice A n c) (marksI k n) ∧ w.grownBy w' (Value.slice A n c).ownBlock := by
  have hzn : zs.length = n := by
    obtain ⟨A', c', hv⟩ := hown.slice
    injection hv with _ h2; exact h2.symm
  have hown : Row w base (.slice A n c) n (i64s zs) := by unfold Ints at hown; rwa [hzn] at hown
  clear hzn
  go_enter Try.func78, Try.ntmps78
  go_wp2
  go_loopw [1, 5] (fun kv i wr => ∃ (j : Nat) (ys : List Value), j ≤ n ∧ kv = .int .i64 ((k + j : Nat) : Int) ∧ i = .int .i64 j ∧ w.grownBy wr (Value.slice A n c).ownBlock ∧ Row wr base (.slice A n c) n ys ∧ Hid (ys.take j = (i64s (marksI k n)).take j)) (fun _ i _ => n - (intOf i).toNat)
  case atStart => exact ⟨0, _, Nat.zero_le _, rfl, rfl, World.grownBy.refl w _, hown, rfl⟩
  case round =>
    obtain ⟨j, ys, hj, rfl, rfl, hgr, hown', hy⟩ := hrel
    clear hown
    by_cases hlt : j < n
    · have hyl : ys.length = n := by simpa using hown'.1
      obtain ⟨g, hA⟩ : ∃ g, A = some ⟨g, 0, none⟩ := by
        rcases hown'.2 with ⟨_, h0⟩ | ⟨g, cap, cur, e, hv, _⟩
        · omega
        · injection hv with h1; exact ⟨g, h1⟩
      subst hA
      obtain ⟨old, hold⟩ : ∃ old, wr.cell? ⟨g, j, none⟩ = some old := ⟨_, by rw [hown'.cells (g := g) rfl j (by omega)]; exact List.getElem?_eq_getElem (by omega)⟩
      have hfz := hown'.frozen (g := g) rfl j
      have ho2 := (hown'.stored (g := g) rfl j (.int .i64 ((k + j : Nat) : Int))).1
      have hg2 := grown_then hgr (hown'.stored (g := g) rfl j (.int .i64 ((k + j : Nat) : Int))).2
      have hnext := hide (take_set_i (ys := i64s (marksI k n)) (unhide hy) (i64_get (marksI_at hlt)) (by omega))
      clear hown' hgr hy hyl
      go_wp2
      go_roundw
      case rel => exact ⟨j + 1, _, by omega, by go_num, by go_num, hg2, ho2, hnext⟩
      case measure => simp [intOf]; omega
    · obtain rfl : n = j := by omega
      have hyl : ys.length = n := by simpa using hown'.1
      have hE : ys = i64s (marksI k n) := by
        have h := unhide hy
        rwa [List.take_of_length_le (by omega), List.take_of_length_le (by rw [i64_length, marksI_length]; omega)] at h
      subst hE
      have hI : Ints wr base (.slice A n c) (marksI k n) := by unfold Ints; rw [marksI_length]; exact hown'
      clear hy hyl hown'
      go_wp2
      go_ret
      exact ⟨rfl, hI, hgr⟩
theorem marki_at (A : Option Addr) (n c base k : Nat) (K : Int) (hK : K = (k : Int)) (zs : List Int) (w : World) (hown : Ints w base (.slice A n c) zs) (hkn : k + n ≤ 1099511627776) :
    Calls Try.prog 78 #[.slice A n c, .int .i64 K] w fun e w' => e = .returned (.int .i64 (K + (n : Int))) ∧
      Ints w' base (.slice A n c) (marksI k n) ∧ w.grownBy w' (Value.slice A n c).ownBlock := by
  subst hK
  refine (marki_any A n c base k zs w hown hkn).mono ?_
  rintro e w' ⟨rfl, h1, h2⟩
  exact ⟨ret_int (by omega), h1, h2⟩
set_option maxHeartbeats 800000 in
/-- heldIntS where the marks stand. -/
theorem heldi_any (A : Option Addr) (n c B k : Nat) (w : World) (hr : Reads w B A n (i64s (marksI k n))) (hkn : k + n ≤ 1099511627776) :
    Calls Try.prog 80 #[.slice A n c, .int .i64 k] w fun e w' => e = .returned (.int .i64 ((k + n : Nat) : Int)) ∧ w = w' := by
  go_enter Try.func80, Try.ntmps80
  go_wp2
  go_loop [1, 5] (fun kv i => ∃ j : Nat, j ≤ n ∧ kv = .int .i64 ((k + j : Nat) : Int) ∧ i = .int .i64 j) (fun _ i => n - (intOf i).toNat)
  case atStart => exact ⟨0, Nat.zero_le _, rfl, rfl⟩
  case round =>
    obtain ⟨j, hj, rfl, rfl⟩ := hrel
    by_cases hlt : j < n
    · obtain ⟨ad, u, rfl, had, hu, hc⟩ := hr.at_ hlt
      obtain ⟨s, hs, rfl⟩ := i64_at hu
      obtain rfl : ((k + j : Nat) : Int) = s := by rw [marksI_at hlt] at hs; exact Option.some.inj hs
      clear hu hs
      go_wp2
      go_round
      case rel => exact ⟨j + 1, by omega, by go_num, by go_num⟩
      case measure => simp [intOf]; omega
    · obtain rfl : n = j := by omega
      go_wp2
      go_ret
      exact ⟨rfl, rfl⟩
theorem heldi_at (A : Option Addr) (n c B k : Nat) (K : Int) (hK : K = (k : Int)) (w : World) (hr : Reads w B A n (i64s (marksI k n))) (hkn : k + n ≤ 1099511627776) :
    Calls Try.prog 80 #[.slice A n c, .int .i64 K] w fun e w' => e = .returned (.int .i64 (K + (n : Int))) ∧ w = w' := by
  subst hK
  refine (heldi_any A n c B k w hr hkn).mono ?_
  rintro e w' ⟨rfl, h1⟩
  exact ⟨ret_int (by omega), h1⟩
end Go.Proofs.Ytcoegjhhhnfplaa


/-
  ROWS OF ROWS OF INTEGERS: the words for them, and the contracts of eqIntSS, markIntSS, heldIntSS.
-/

namespace Go.Proofs.Ytcoegjhhhnfplaa
set_option maxRecDepth 100000
open Go.RowKit

theorem rowsInfo : (Try.prog.info? 24).map (fun i => (i.zero, i.size, i.bytes)) = some (some (.slice none 0 0), 1, 24) := by kernel_rfl

/-- Nothing that is no list of rows has turned. -/
structure KeepI (w w' : World) : Prop where
  os : w'.os = w.os
  tape : w'.tape = w.tape
  output : w'.output = w.output
  size : w.heap.size ≤ w'.heap.size
  block : ∀ (i : Nat) cur e fr, w.heap[i]? = some (.cells cur e fr) → e ≠ 24 → w'.heap[i]? = w.heap[i]?
theorem KeepI.refl (w : World) : KeepI w w := ⟨rfl, rfl, rfl, Nat.le_refl _, fun _ _ _ _ _ _ => rfl⟩
theorem KeepI.trans {a b c : World} (h : KeepI a b) (k : KeepI b c) : KeepI a c :=
  ⟨k.os.trans h.os, k.tape.trans h.tape, k.output.trans h.output, Nat.le_trans h.size k.size, fun i cur e fr hi he => by
    have h1 := h.block i cur e fr hi he
    exact (k.block i cur e fr (h1.trans hi) he).trans h1⟩
theorem KeepI.of_below {w w' : World} (h : Below w.heap.size w w') : KeepI w w' :=
  ⟨h.os, h.tape, h.output, h.size, fun i _ _ _ hi _ => h.block i (Array.getElem?_eq_some_iff.1 hi).1⟩
theorem KeepI.of_grown {w w' : World} {B n : Nat} {v : Value} {xs : List Value} (hown : w.ownsRow B 24 1 v n xs) (h : w.grownBy w' v.ownBlock) : KeepI w w' :=
  ⟨h.os, h.tape, h.output, h.size, fun i cur e fr hi he => by
    refine h.block i (Array.getElem?_eq_some_iff.1 hi).1 fun hv => ?_
    rcases hown.2 with ⟨rfl, _⟩ | ⟨g, cap, cur', rfl, _, hg, _⟩
    · simp [Value.ownBlock] at hv
    · simp [Value.ownBlock] at hv
      subst hv
      rw [hi] at hg
      injection hg with hg
      injection hg with _ h2
      exact he h2⟩
theorem Ints.keepI {w w' : World} {B : Nat} {v : Value} {zs : List Int} (h : Ints w B v zs) (hk : KeepI w w') : Ints w' B v zs := by
  refine ⟨h.1, ?_⟩
  rcases h.2 with hn | ⟨g, cap, cur, e, rfl, hb, hgg, h1, h2, he⟩
  · exact .inl hn
  · exact .inr ⟨g, cap, cur, e, rfl, hb, (hk.block g cur e _ hgg he).trans hgg, h1, h2, he⟩
/-- No row lies where a list of rows lies. -/
theorem rows_apart {w : World} {B B' n : Nat} {v u : Value} {xs : List Value} {zs : List Int} (hown : w.ownsRow B 24 1 v n xs) (h : Ints w B' u zs) : v.ownBlock = none ∨ v.ownBlock ≠ u.ownBlock := by
  rcases hown.2 with ⟨rfl, _⟩ | ⟨g, cap, cur, rfl, _, hg, _⟩
  · exact .inl rfl
  · refine .inr fun e => ?_
    rcases h.2 with ⟨rfl, _⟩ | ⟨g', cap', cur', t, rfl, _, hg', _, _, he⟩
    · simp [Value.ownBlock] at e
    · simp [Value.ownBlock] at e
      subst e
      rw [hg] at hg'
      injection hg' with hg'
      injection hg' with _ h2
      exact he h2.symm

def Away (a b : Value) : Prop := a.ownBlock = none ∨ a.ownBlock ≠ b.ownBlock
theorem Away.symm {a b : Value} (h : Away a b) : b.ownBlock = none ∨ b.ownBlock ≠ a.ownBlock := by
  rcases h with h | h
  · cases hb : b.ownBlock with
    | none => exact .inl rfl
    | some k => exact .inr (by rw [h]; simp)
  · exact .inr fun e => h e.symm
/-- The values vs are rows that hold the lists zss, no two at one place. -/
structure Inner (w : World) (B : Nat) (vs : List Value) (zss : List (List Int)) : Prop where
  len : vs.length = zss.length
  row : ∀ (i : Nat) u zs, vs[i]? = some u → zss[i]? = some zs → Ints w B u zs
  away : vs.Pairwise Away
theorem Inner.nil (w : World) (B : Nat) : Inner w B [] [] := ⟨rfl, fun i u zs h => by simp at h, List.Pairwise.nil⟩
theorem Inner.keepI {w w' : World} {B : Nat} {vs : List Value} {zss : List (List Int)} (h : Inner w B vs zss) (hk : KeepI w w') : Inner w' B vs zss :=
  ⟨h.len, fun i u zs hu hz => (h.row i u zs hu hz).keepI hk, h.away⟩
theorem Inner.low {w : World} {B B' : Nat} {vs : List Value} {zss : List (List Int)} (h : Inner w B vs zss) (hB : B' ≤ B) : Inner w B' vs zss :=
  ⟨h.len, fun i u zs hu hz => (h.row i u zs hu hz).low hB, h.away⟩
theorem Inner.push {w : World} {B : Nat} {vs : List Value} {zss : List (List Int)} {u : Value} {zs : List Int} (h : Inner w B vs zss) (hu : Ints w B u zs) (ha : ∀ x ∈ vs, Away x u) : Inner w B (vs ++ [u]) (zss ++ [zs]) := by
  refine ⟨by simp [h.len], fun i x ys hx hy => ?_, ?_⟩
  · have hl := h.len
    by_cases hi : i < vs.length
    · rw [List.getElem?_append_left hi] at hx
      rw [List.getElem?_append_left (by omega)] at hy
      exact h.row i x ys hx hy
    · rw [List.getElem?_append_right (by omega)] at hx
      rw [List.getElem?_append_right (by omega), ← hl] at hy
      have h0 : i - vs.length = 0 := by
        have := (List.getElem?_eq_some_iff.1 hx).1
        simp at this
        omega
      rw [h0] at hx hy
      simp at hx hy
      subst hx; subst hy
      exact hu
  · rw [List.pairwise_append]
    refine ⟨h.away, by simp, fun a ha' b hb => ?_⟩
    rw [List.mem_singleton] at hb
    subst hb
    exact ha a ha'
theorem Inner.mem {w : World} {B : Nat} {vs : List Value} {zss : List (List Int)} (h : Inner w B vs zss) {u : Value} (hu : u ∈ vs) : ∃ zs, Ints w B u zs := by
  obtain ⟨i, hi, rfl⟩ := List.getElem_of_mem hu
  exact ⟨_, h.row i _ (zss[i]'(by rw [← h.len]; exact hi)) (List.getElem?_eq_getElem hi) (List.getElem?_eq_getElem _)⟩
/-- A row made behind all of vs is away from them. -/
theorem Inner.away_new {w : World} {B B' : Nat} {vs : List Value} {zss : List (List Int)} (h : Inner w B vs zss) {u : Value} (hu : Since B' u) (hB : w.heap.size ≤ B') : ∀ x ∈ vs, Away x u := fun x hx => by
  obtain ⟨zs, hz⟩ := h.mem hx
  exact apart hz.until_ hu hB

/-- A list of rows of the call's own. -/
def IntsS (w : World) (B : Nat) (v : Value) (zss : List (List Int)) : Prop := ∃ vs, w.ownsRow B 24 1 v zss.length vs ∧ Inner w B vs zss
theorem IntsS.slice {w : World} {B : Nat} {v : Value} {zss : List (List Int)} (h : IntsS w B v zss) : ∃ A c, v = .slice A zss.length c := by
  obtain ⟨vs, h, _⟩ := h
  rcases h.2 with ⟨rfl, hz⟩ | ⟨g, cap, cur, rfl, _⟩
  · exact ⟨none, 0, by rw [hz]⟩
  · exact ⟨_, _, rfl⟩
theorem IntsS.below {w w' : World} {B : Nat} {v : Value} {zss : List (List Int)} (h : IntsS w B v zss) (hb : Below w.heap.size w w') : IntsS w' B v zss := by
  obtain ⟨vs, h1, h2⟩ := h
  exact ⟨vs, own_below h1 hb, h2.keepI (KeepI.of_below hb)⟩
theorem IntsS.low {w : World} {B B' : Nat} {v : Value} {zss : List (List Int)} (h : IntsS w B v zss) (hB : B' ≤ B) : IntsS w B' v zss := by
  obtain ⟨vs, h1, h2⟩ := h
  refine ⟨vs, ⟨h1.1, ?_⟩, h2.low hB⟩
  rcases h1.2 with h0 | ⟨g, cap, cur, hv, hb, hr⟩
  · exact .inl h0
  · exact .inr ⟨g, cap, cur, hv, Nat.le_trans hB hb, hr⟩
theorem IntsS.nil (w : World) (B : Nat) : IntsS w B (.slice none 0 0) [] := ⟨[], ⟨rfl, .inl ⟨rfl, rfl⟩⟩, Inner.nil w B⟩
theorem ownS0 (w : World) (B : Nat) (hB : B ≤ w.heap.size) : (w.alloc (.cells #[] 24)).ownsRow B 24 1 (.slice (some ⟨w.heap.size, 0, none⟩) 0 0) 0 [] :=
  World.ownsRow_made (base := B) (e := 24) (size := 1) w #[] 0 hB (by simp [maxLen]) rfl
theorem IntsS.made0 (w : World) (B : Nat) (hB : B ≤ w.heap.size) : IntsS (w.alloc (.cells #[] 24)) B (.slice (some ⟨w.heap.size, 0, none⟩) 0 0) [] := ⟨[], ownS0 w B hB, Inner.nil _ _⟩
/-- Behind a change of what lies at or above B'. -/
theorem IntsS.stay {w w' : World} {B B' : Nat} {v : Value} {zss : List (List Int)} (h : IntsS w B v zss) (hb : Below B' w w') (hu : w.heap.size ≤ B') : IntsS w' B v zss := h.below (hb.mono hu)
def GivesSS (w : World) (zss : List (List Int)) (e : Ending) (w' : World) : Prop := ∃ A c, e = .returned (.slice A zss.length c) ∧ IntsS w' w.heap.size (.slice A zss.length c) zss ∧ Below w.heap.size w w'
theorem GivesSS.mk {w w' : World} {v : Value} {zss : List (List Int)} (h : IntsS w' w.heap.size v zss) (hb : Below w.heap.size w w') : GivesSS w zss (.returned v) w' := by
  obtain ⟨A, c, rfl⟩ := h.slice
  exact ⟨A, c, rfl, h, hb⟩

/-- .. that lies below U. -/
def Sealed (w : World) (B U : Nat) (v : Value) (zss : List (List Int)) : Prop := ∃ vs, w.ownsRow B 24 1 v zss.length vs ∧ Inner w B vs zss ∧ Until U v ∧ ∀ x ∈ vs, Until U x
theorem IntsS.sealed {w : World} {B : Nat} {v : Value} {zss : List (List Int)} (h : IntsS w B v zss) : Sealed w B w.heap.size v zss := by
  obtain ⟨vs, h1, h2⟩ := h
  refine ⟨vs, h1, h2, fun k hk => (h1.lt k hk).2, fun x hx => ?_⟩
  obtain ⟨zs, hz⟩ := h2.mem hx
  exact hz.until_
theorem Sealed.opened {w : World} {B U : Nat} {v : Value} {zss : List (List Int)} (h : Sealed w B U v zss) : IntsS w B v zss := by
  obtain ⟨vs, h1, h2, _⟩ := h
  exact ⟨vs, h1, h2⟩
theorem Sealed.below {w w' : World} {B U : Nat} {v : Value} {zss : List (List Int)} (h : Sealed w B U v zss) (hb : Below w.heap.size w w') : Sealed w' B U v zss := by
  obtain ⟨vs, h1, h2, h3⟩ := h
  exact ⟨vs, own_below h1 hb, h2.keepI (KeepI.of_below hb), h3⟩
theorem Row.stay {w w' : World} {B B' n : Nat} {v : Value} {xs : List Value} (h : Row w B v n xs) (hu : Until B' v) (hb : Below B' w w') : Row w' B v n xs := by
  refine ⟨h.1, ?_⟩
  rcases h.2 with hn | ⟨g, cap, cur, e, rfl, hB, hgg, rest⟩
  · exact .inl hn
  · exact .inr ⟨g, cap, cur, e, rfl, hB, (hb.block g (hu g rfl)).trans hgg, rest⟩
theorem Ints.stay {w w' : World} {B B' U : Nat} {v : Value} {zs : List Int} (h : Ints w B v zs) (hu : Until U v) (hb : Below B' w w') (hU : U ≤ B') : Ints w' B v zs := Row.stay h (hu.mono hU) hb
theorem own_stay {w w' : World} {B B' n : Nat} {e : TypeId} {v : Value} {xs : List Value} (h : w.ownsRow B e 1 v n xs) (hu : Until B' v) (hb : Below B' w w') : w'.ownsRow B e 1 v n xs := by
  refine ⟨h.1, ?_⟩
  rcases h.2 with hn | ⟨g, cap, cur, rfl, hB, hgg, rest⟩
  · exact .inl hn
  · exact .inr ⟨g, cap, cur, rfl, hB, (hb.block g (hu g rfl)).trans hgg, rest⟩
theorem Sealed.stay {w w' : World} {B U B' : Nat} {v : Value} {zss : List (List Int)} (h : Sealed w B U v zss) (hb : Below B' w w') (hU : U ≤ B') : Sealed w' B U v zss := by
  obtain ⟨vs, h1, h2, h3, h4⟩ := h
  exact ⟨vs, own_stay h1 (h3.mono hU) hb, ⟨h2.len, fun i u zs hu hz => (h2.row i u zs hu hz).stay (h4 u (List.mem_of_getElem? hu)) hb hU, h2.away⟩, h3, h4⟩
/-- Behind a change of one row u that lies before it. -/
theorem Sealed.after {w w' : World} {B U E : Nat} {v u : Value} {zss : List (List Int)} (h : Sealed w B U v zss) (hg : w.grownBy w' u.ownBlock) (hu : Until E u) (hE : E ≤ B) : Sealed w' B U v zss := by
  obtain ⟨vs, h1, h2, h3⟩ := h
  refine ⟨vs, h1.kept hg (apart' (fun k hk => (h1.lt k hk).1) hu hE), ⟨h2.len, fun i x zs hx hz => ?_, h2.away⟩, h3⟩
  have hr := h2.row i x zs hx hz
  exact hr.kept hg (apart' hr.since hu hE)
/-- What lies at place i: the row's value, and what it reads. -/
theorem IntsS.at_ {w : World} {B n c : Nat} {A : Option Addr} {zss : List (List Int)} (h : IntsS w B (.slice A n c) zss) {i : Nat} (hi : i < n) :
    ∃ ad A' c' zs, A = some ad ∧ zss[i]? = some zs ∧ w.cell? (ad.add i) = some (.slice A' zs.length c') ∧ Ints w B (.slice A' zs.length c') zs := by
  obtain ⟨vs, h1, h2⟩ := h
  have hn : n = zss.length := by
    rcases h1.2 with ⟨hv, hz⟩ | ⟨g, cap, cur, hv, _⟩
    · injection hv with _ h3; omega
    · injection hv
  subst hn
  obtain ⟨ad, u, hA, _, hu, hc⟩ := (Reads.of_own_at h1).at_ hi
  have hz : zss[i]? = some zss[i] := List.getElem?_eq_getElem hi
  have hr := h2.row i u _ hu hz
  obtain ⟨A', c', rfl⟩ := hr.slice
  exact ⟨ad, A', c', _, hA, hz, hc, hr⟩
theorem IntsS.len {w : World} {B n c : Nat} {A : Option Addr} {zss : List (List Int)} (h : IntsS w B (.slice A n c) zss) : zss.length = n := by
  obtain ⟨A', c', hv⟩ := h.slice
  injection hv with _ h2; exact h2.symm

theorem Drew.keepI {w w' : World} (h : Drew w w') : KeepI w w' := KeepI.of_below (h.below _)
theorem tot_at {zss : List (List Int)} {i : Nat} {zs : List Int} (h : zss[i]? = some zs) : zs.length ≤ tot zss := by
  have h1 := tot_step h
  have h2 := tot_take zss (i + 1)
  omega
set_option maxHeartbeats 400000 in
/-- eqIntSS: equal lists of rows. -/
theorem eqss_any (A A' : Option Addr) (n c n' c' B B' : Nat) (zss : List (List Int)) (w : World) (hr : IntsS w B (.slice A n c) zss) (hr' : IntsS w B' (.slice A' n' c') zss) (hn : n ≤ 1048576) (ht : tot zss ≤ 1099511627776) :
    Calls Try.prog 77 #[.slice A n c, .slice A' n' c'] w fun e w' => e = .returned (.bool true) ∧ Drew w w' := by
  have e1 := hr.len
  have e2 := hr'.len
  obtain rfl : n = n' := by omega
  have HE := hide e1
  clear e1 e2
  go_enter Try.func77, Try.ntmps77
  go_wp2
  go_loopw [5] (fun i wr => ∃ k : Nat, k ≤ n ∧ i = .int .i64 k ∧ Drew w wr) (fun i _ => n - (intOf i).toNat)
  case atStart => exact ⟨0, Nat.zero_le _, rfl, Drew.refl _⟩
  case round =>
    obtain ⟨k, hk, rfl, hd⟩ := hrel
    by_cases hlt : k < n
    · obtain ⟨ad, A1, c1, zs, rfl, hz, hc, hI⟩ := (hr.below (hd.below _)).at_ hlt
      obtain ⟨ad', A1', c1', zs', rfl, hz', hc', hI'⟩ := (hr'.below (hd.below _)).at_ hlt
      obtain rfl : zs = zs' := by rw [hz] at hz'; exact Option.some.inj hz'
      have hle := tot_at hz
      have HD := hide hd
      have H1 := hide hI.reads
      have H2 := hide hI'.reads
      clear hz hz' hd hI hI' hr hr'
      go_wp2
      go_quiet ((go_at_call 34; exact Calls.quiet_of (eqi_any _ _ _ _ _ _ _ _ zs _ ((unhide H1).drewN _) ((unhide H2).drewN _) (by omega))))
      go_wp2
      go_roundw
      case rel => exact ⟨k + 1, by omega, by go_num, (unhide HD).more _⟩
      case measure => simp [intOf]; omega
    · go_wp2
      go_ret
      exact ⟨rfl, hd⟩
/-- The marks from k on, row by row. -/
def mkS (k : Nat) : List (List Int) → List (List Int)
  | [] => []
  | z :: r => marksI k z.length :: mkS (k + z.length) r
theorem mkS_length : ∀ (k : Nat) (zss : List (List Int)), (mkS k zss).length = zss.length
  | _, [] => rfl
  | k, z :: r => by rw [mkS, List.length_cons, List.length_cons, mkS_length _ r]
theorem mkS_at : ∀ (k : Nat) (zss : List (List Int)) (i : Nat) (z : List Int), zss[i]? = some z → (mkS k zss)[i]? = some (marksI (k + tot (zss.take i)) z.length)
  | _, [], i, z, h => by simp at h
  | k, y :: r, 0, z, h => by
    simp at h
    subst h
    simp [mkS, tot]
  | k, y :: r, i + 1, z, h => by
    have := mkS_at (k + y.length) r i z (by simpa using h)
    rw [mkS, List.getElem?_cons_succ, this]
    simp [tot, Nat.add_assoc]
/-- Where markIntSS stands behind i rows. -/
def Half (w : World) (B : Nat) (vs : List Value) (k : Nat) (zss : List (List Int)) (i : Nat) : Prop :=
  ∀ (j : Nat) u zs, vs[j]? = some u → zss[j]? = some zs → Ints w B u (if j < i then marksI (k + tot (zss.take j)) zs.length else zs)
theorem Half.start {w : World} {B : Nat} {vs : List Value} {zss : List (List Int)} (k : Nat) (h : Inner w B vs zss) : Half w B vs k zss 0 := fun j u zs hu hz => by
  rw [if_neg (by omega)]
  exact h.row j u zs hu hz
theorem Half.step {w w' : World} {B : Nat} {vs : List Value} {k i : Nat} {zss : List (List Int)} {u : Value} {zs : List Int} (h : Half w B vs k zss i) (ha : vs.Pairwise Away) (hu : vs[i]? = some u) (hz : zss[i]? = some zs)
    (hm : Ints w' B u (marksI (k + tot (zss.take i)) zs.length)) (hg : w.grownBy w' u.ownBlock) : Half w' B vs k zss (i + 1) := fun j x ys hx hy => by
  by_cases hj : j = i
  · subst hj
    rw [hu] at hx
    rw [hz] at hy
    injection hx with hx
    injection hy with hy
    subst hx; subst hy
    rw [if_pos (by omega)]
    exact hm
  · have h1 := h j x ys hx hy
    have e : (if j < i + 1 then marksI (k + tot (zss.take j)) ys.length else ys) = (if j < i then marksI (k + tot (zss.take j)) ys.length else ys) := by
      by_cases hlt : j < i
      · rw [if_pos (by omega), if_pos hlt]
      · rw [if_neg (by omega), if_neg hlt]
    rw [e]
    obtain ⟨hxl, hxe⟩ := List.getElem?_eq_some_iff.1 hx
    obtain ⟨hul, hue⟩ := List.getElem?_eq_some_iff.1 hu
    rw [List.pairwise_iff_getElem] at ha
    refine h1.kept hg ?_
    subst hxe
    subst hue
    by_cases hlt : j < i
    · exact ha j i hxl hul hlt
    · exact (ha i j hul hxl (by omega)).symm
theorem Half.done {w : World} {B : Nat} {vs : List Value} {k : Nat} {zss : List (List Int)} (h : Half w B vs k zss zss.length) (hl : vs.length = zss.length) (ha : vs.Pairwise Away) : Inner w B vs (mkS k zss) :=
  ⟨by rw [mkS_length]; exact hl, fun i u zs hu hz => by
    have hi : i < zss.length := by have := (List.getElem?_eq_some_iff.1 hz).1; rwa [mkS_length] at this
    have h1 := h i u zss[i] hu (List.getElem?_eq_getElem hi)
    rw [if_pos hi] at h1
    rw [mkS_at k zss i _ (List.getElem?_eq_getElem hi)] at hz
    injection hz with hz
    rwa [hz] at h1, ha⟩
set_option maxHeartbeats 800000 in
/-- markIntSS at a list of rows of the call's own. -/
theorem markss_any (A : Option Addr) (n c B k : Nat) (K : Int) (hK : K = (k : Int)) (zss : List (List Int)) (w : World) (h : IntsS w B (.slice A n c) zss) (hB : B ≤ w.heap.size) (hkn : k + tot zss ≤ 1099511627776) (hn : n ≤ 1048576) :
    Calls Try.prog 79 #[.slice A n c, .int .i64 K] w fun e w' => e = .returned (.int .i64 (K + (tot zss : Int))) ∧ IntsS w' B (.slice A n c) (mkS k zss) ∧ Below B w w' := by
  subst hK
  have hl := h.len
  obtain ⟨vs, hown, hin⟩ := h
  rw [hl] at hown
  have HA := hide hin.away
  have HV := hide hin.len
  have HL := hide hl
  have hh := hide (Half.start k hin)
  clear hin hl
  go_enter Try.func79, Try.ntmps79
  go_wp2
  go_loopw [1, 5] (fun kv i wr => ∃ j : Nat, j ≤ n ∧ kv = .int .i64 ((k + tot (zss.take j) : Nat) : Int) ∧ i = .int .i64 j ∧ Below B w wr ∧ wr.ownsRow B 24 1 (.slice A n c) n vs ∧ Hid (Half wr B vs k zss j)) (fun _ i _ => n - (intOf i).toNat)
  case atStart => exact ⟨0, Nat.zero_le _, rfl, rfl, Below.refl _ _, hown, hh⟩
  case round =>
    obtain ⟨j, hj, rfl, rfl, hb, hown', hhf⟩ := hrel
    clear hown hh
    have htt := tot_take zss j
    by_cases hlt : j < n
    · obtain ⟨ad, u, rfl, _, hu, hc⟩ := (Reads.of_own_at hown').at_ hlt
      obtain ⟨zs, hz⟩ : ∃ zs, zss[j]? = some zs := ⟨_, List.getElem?_eq_getElem (by rw [unhide HL]; exact hlt)⟩
      have hts := tot_step hz
      have htt2 := tot_take zss (j + 1)
      have hI := unhide hhf j u zs hu hz
      rw [if_neg (by omega)] at hI
      obtain ⟨A1, c1, rfl⟩ := hI.slice
      have H1 := hide (marki_at A1 zs.length c1 B (k + tot (zss.take j)) _ rfl zs wr hI (by omega))
      have hne := rows_apart hown' hI
      have hsi := hI.since
      have HU := hide hu
      have HZ := hide hz
      have HT := hide hts
      obtain ⟨t, ht⟩ : ∃ t, t = tot (zss.take j) := ⟨_, rfl⟩
      rw [← ht] at H1 HT htt ⊢
      have HTT := hide ht
      have hs0 : k + t + zs.length ≤ 1099511627776 := by have h1 := unhide HT; omega
      clear hu hz hts ht hI htt2
      go_wp2_with fail
      refine (unhide H1).mono ?_
      rintro e w2 ⟨rfl, hm, hg⟩
      have hb2 := below_row hb hg (Nat.le_trans hB hb.size) hsi
      have hown2 := World.ownsRow.kept hown' hg hne
      have hh2 := hide (Half.step (unhide hhf) (unhide HA) (unhide HU) (unhide HZ) (by rw [← unhide HTT]; exact hm) hg)
      clear H1 hown' hb hm hg hne hhf
      go_wp2
      go_roundw
      case rel => exact ⟨j + 1, by omega, by rw [unhide HT]; go_num, by go_num, hb2, hown2, hh2⟩
      case measure => simp [intOf]; omega
    · obtain rfl : n = j := by omega
      have e : zss.take n = zss := List.take_of_length_le (by rw [unhide HL]; exact Nat.le_refl _)
      rw [e]
      have hdn : Inner wr B vs (mkS k zss) := Half.done (by rw [unhide HL]; exact unhide hhf) (unhide HV) (unhide HA)
      have hI : IntsS wr B (.slice A n c) (mkS k zss) := ⟨vs, by rw [mkS_length, unhide HL]; exact hown', hdn⟩
      clear hown' hhf hdn e
      go_wp2
      go_ret
      exact ⟨ret_int (by omega), hI, hb⟩
set_option maxHeartbeats 800000 in
/-- heldIntSS where the marks stand. -/
theorem heldss_any (A : Option Addr) (n c B k : Nat) (K : Int) (hK : K = (k : Int)) (zss : List (List Int)) (w : World) (h : IntsS w B (.slice A n c) (mkS k zss)) (hkn : k + tot zss ≤ 1099511627776) (hn : n ≤ 1048576) :
    Calls Try.prog 81 #[.slice A n c, .int .i64 K] w fun e w' => e = .returned (.int .i64 (K + (tot zss : Int))) ∧ w = w' := by
  subst hK
  have hl := h.len
  rw [mkS_length] at hl
  have HL := hide hl
  have hh := hide h
  clear h hl
  go_enter Try.func81, Try.ntmps81
  go_wp2
  go_loop [1, 5] (fun kv i => ∃ j : Nat, j ≤ n ∧ kv = .int .i64 ((k + tot (zss.take j) : Nat) : Int) ∧ i = .int .i64 j) (fun _ i => n - (intOf i).toNat)
  case atStart => exact ⟨0, Nat.zero_le _, rfl, rfl⟩
  case round =>
    obtain ⟨j, hj, rfl, rfl⟩ := hrel
    have htt := tot_take zss j
    by_cases hlt : j < n
    · obtain ⟨ad, A1, c1, zs', rfl, hz', hc, hI⟩ := (unhide hh).at_ hlt
      obtain ⟨zs, hz⟩ : ∃ zs, zss[j]? = some zs := ⟨_, List.getElem?_eq_getElem (by rw [unhide HL]; exact hlt)⟩
      obtain rfl : marksI (k + tot (zss.take j)) zs.length = zs' := by rw [mkS_at k zss j zs hz] at hz'; exact Option.some.inj hz'
      have hts := tot_step hz
      have htt2 := tot_take zss (j + 1)
      rw [marksI_length] at hc hI
      have H1 := hide (heldi_at A1 zs.length c1 _ (k + tot (zss.take j)) _ rfl w hI.reads (by omega))
      have HT := hide hts
      obtain ⟨t, ht⟩ : ∃ t, t = tot (zss.take j) := ⟨_, rfl⟩
      rw [← ht] at H1 HT htt ⊢
      have hs0 : k + t + zs.length ≤ 1099511627776 := by have h1 := unhide HT; omega
      clear hz hz' hts ht hI htt2
      go_wp2_with fail
      refine (unhide H1).mono ?_
      rintro e w2 ⟨rfl, rfl⟩
      clear H1
      go_wp2
      go_round
      case rel => exact ⟨j + 1, by omega, by rw [unhide HT]; go_num, by go_num⟩
      case measure => simp [intOf]; omega
    · obtain rfl : n = j := by omega
      have e : zss.take n = zss := List.take_of_length_le (by rw [unhide HL]; exact Nat.le_refl _)
      rw [e]
      clear e
      go_wp2
      go_ret
      exact ⟨ret_int (by omega), rfl⟩
end Go.Proofs.Ytcoegjhhhnfplaa


/-
  A list of rows that is read place by place.
-/

namespace Go.Proofs.Ytcoegjhhhnfplaa
set_option maxRecDepth 100000
open Go.RowKit

/-- How a list of rows reads, place by place, in every world behind it. -/
def AtS (w : World) (A : Option Addr) (n : Nat) (zss : List (List Int)) : Prop :=
  zss.length = n ∧ ∀ wr, Below w.heap.size w wr → ∀ k, k < n → ∃ ad A' c' z, A = some ad ∧ zss[k]? = some z ∧ wr.cell? (ad.add k) = some (.slice A' z.length c') ∧ Arg wr wr.heap.size A' z.length c' z
theorem IntsS.atS {w : World} {B n c : Nat} {A : Option Addr} {zss : List (List Int)} (h : IntsS w B (.slice A n c) zss) (hsm : ∀ z ∈ zss, z.length ≤ 1048576 ∧ Small z) : AtS w A n zss :=
  ⟨h.len, fun wr hb k hk => by
    obtain ⟨ad, A', c', z, hA, hz, hc, hI⟩ := (h.below hb).at_ hk
    have hs := hsm z (List.mem_of_getElem? hz)
    exact ⟨ad, A', c', z, hA, hz, hc, hI.arg hs.1 hI.cap hs.2⟩⟩
/-- 'list[f:]', f a place of it. -/
theorem AtS.rest {w : World} {n f : Nat} {ad : Addr} {zss : List (List Int)} (h : AtS w (some ad) n zss) (hf : f ≤ n) : AtS w (some (ad.add f)) (n - f) (zss.drop f) :=
  ⟨by rw [List.length_drop, h.1], fun wr hb k hk => by
    obtain ⟨ad', A', c', z, hA, hz, hc, hI⟩ := h.2 wr hb (f + k) (by omega)
    injection hA with hA
    subst hA
    exact ⟨_, A', c', z, rfl, by rw [List.getElem?_drop]; exact hz, by rw [add_of_add]; exact hc, hI⟩⟩
theorem AtS.below {w w' : World} {n : Nat} {A : Option Addr} {zss : List (List Int)} (h : AtS w A n zss) (hb : Below w.heap.size w w') : AtS w' A n zss :=
  ⟨h.1, fun wr hb' k hk => h.2 wr (hb.trans (hb'.mono hb.size)) k hk⟩
end Go.Proofs.Ytcoegjhhhnfplaa
