
/-
  PLAIN: lists that stand alike; occurrences of a permutation in a permutation. Nothing here speaks of the program.
-/
import Derived.Test.YtknjgehcaadomaaSymM
import Derived.Test.YtknjgehcaadomaaSumL
import Derived.Test.YtknjgehcaadomaaIvM
namespace Go.Proofs.Ytknjgehcaadomaa
set_option maxRecDepth 100000

theorem at0_zero (a : Int) (l : List Int) : at0 (a :: l) 0 = a := rfl
theorem at0_succ (a : Int) (l : List Int) (i : Nat) : at0 (a :: l) (i + 1) = at0 l i := rfl
theorem at0_mem {l : List Int} {i : Nat} (h : i < l.length) : at0 l i ∈ l := List.mem_of_getElem? (at0_some h)
theorem at0_app {a b : List Int} {i : Nat} (h : i < a.length) : at0 (a ++ b) i = at0 a i := at0_of (by rw [List.getElem?_append_left h]; exact at0_some h)
theorem at0_last (a : List Int) (x : Int) : at0 (a ++ [x]) a.length = x := at0_of (by simp)
theorem at0_take {l : List Int} {i k : Nat} (h : i < k) (hl : i < l.length) : at0 (l.take k) i = at0 l i := at0_of (by rw [List.getElem?_take, if_pos h]; exact at0_some hl)
theorem ext_at0 {a b : List Int} (hl : a.length = b.length) (h : ∀ i, i < a.length → at0 a i = at0 b i) : a = b := by
  refine List.ext_getElem? fun i => ?_
  by_cases hi : i < a.length
  · rw [at0_some hi, at0_some (by omega), h i hi]
  · rw [List.getElem?_eq_none (by omega), List.getElem?_eq_none (by omega)]

/-- Two lists stand alike: their numbers are in the same order. -/
def Alike (v u : List Int) : Prop := v.length = u.length ∧ ∀ i j, i < v.length → j < v.length → (at0 v i < at0 v j ↔ at0 u i < at0 u j)
theorem cnt_pt : ∀ {v u : List Int} {x y : Int}, v.length = u.length → (∀ i, i < v.length → (at0 v i < x ↔ at0 u i < y)) → cnt v x = cnt u y
  | [], [], _, _, _, _ => rfl
  | [], _ :: _, _, _, h, _ => by simp at h
  | _ :: _, [], _, _, h, _ => by simp at h
  | a :: v, b :: u, x, y, h, hp => by
    have h0 := hp 0 (by simp)
    rw [at0_zero, at0_zero] at h0
    have ih := cnt_pt (v := v) (u := u) (x := x) (y := y) (by simpa using h) fun i hi => by
      have := hp (i + 1) (by simp; omega)
      rwa [at0_succ, at0_succ] at this
    rw [cnt_cons, cnt_cons, ih]
    by_cases hx : a < x
    · rw [if_pos hx, if_pos (h0.1 hx)]
    · rw [if_neg hx, if_neg (fun h => hx (h0.2 h))]
theorem patL_at0 {l : List Int} {i : Nat} (h : i < l.length) : at0 (patL l) i = 1 + (cnt l (at0 l i) : Int) := at0_of (patL_at (at0_some h))
theorem patL_alike {v u : List Int} (h : Alike v u) : patL v = patL u := by
  refine ext_at0 (by rw [patL_length, patL_length]; exact h.1) fun i hi => ?_
  rw [patL_length] at hi
  have hl := h.1
  rw [patL_at0 hi, patL_at0 (by omega), cnt_pt hl fun j hj => h.2 j i hj hi]
theorem cnt_iff {l : List Int} {a b : Int} (ha : a ∈ l) : a < b ↔ cnt l a < cnt l b := by
  constructor
  · intro h; have := cnt_lt ha h; omega
  · intro h
    by_cases hb : b ≤ a
    · have := cnt_mono l hb; omega
    · omega
theorem alike_patL {v u : List Int} (h : patL v = patL u) : Alike v u := by
  have hl : v.length = u.length := by have := congrArg List.length h; rwa [patL_length, patL_length] at this
  refine ⟨hl, fun i j hi hj => ?_⟩
  have e : ∀ k, k < v.length → cnt v (at0 v k) = cnt u (at0 u k) := fun k hk => by
    have h1 : at0 (patL v) k = at0 (patL u) k := by rw [h]
    rw [patL_at0 hk, patL_at0 (by omega)] at h1
    omega
  rw [cnt_iff (at0_mem hi), cnt_iff (l := u) (at0_mem (by omega)), e i hi, e j hj]
theorem patL_self {p : List Int} (h : isP p = true) : patL p = p := by
  refine ext_at0 (patL_length p) fun i hi => ?_
  rw [patL_length] at hi
  rw [patL_at0 hi, cnt_isP h (at0_mem hi)]
  omega
theorem Alike.symm {v u : List Int} (h : Alike v u) : Alike u v := ⟨h.1.symm, fun i j hi hj => (h.2 i j (by rw [h.1]; exact hi) (by rw [h.1]; exact hj)).symm⟩
theorem Alike.trans {a b c : List Int} (h : Alike a b) (k : Alike b c) : Alike a c := ⟨h.1.trans k.1, fun i j hi hj => (h.2 i j hi hj).trans (k.2 i j (by rw [← h.1]; exact hi) (by rw [← h.1]; exact hj))⟩
theorem alike_pat (v : List Int) : Alike (patL v) v := ⟨patL_length v, fun i j hi hj => by
  rw [patL_length] at hi hj
  rw [patL_at0 hi, patL_at0 hj, cnt_iff (at0_mem hi)]
  omega⟩
theorem pat_eq_iff {v q : List Int} (hq : isP q = true) : patL v = q ↔ Alike v q := by
  constructor
  · intro h; exact alike_patL (by rw [h, patL_self hq])
  · intro h; rw [patL_alike h, patL_self hq]
theorem isP_ne {p : List Int} (h : isP p = true) {i j : Nat} (hi : i < p.length) (hj : j < p.length) (hne : i ≠ j) : at0 p i ≠ at0 p j := fun e => hne (isP_same h (at0_some hi) (by rw [e]; exact at0_some hj))

/-! occurrences -/
/-- The numbers at places. -/
def nums (p pl : List Int) : List Int := pl.map fun x => at0 p (x.toNat - 1)
theorem nums_length (p pl : List Int) : (nums p pl).length = pl.length := by simp [nums]
theorem nums_at0 {p pl : List Int} {i : Nat} (h : i < pl.length) : at0 (nums p pl) i = at0 p ((at0 pl i).toNat - 1) := at0_of (by unfold nums; rw [List.getElem?_map, at0_some h]; rfl)
theorem nums_snoc (p pl : List Int) (x : Int) : nums p (pl ++ [x]) = nums p pl ++ [at0 p (x.toNat - 1)] := by simp [nums]
theorem nums_take (p pl : List Int) (k : Nat) : nums p (pl.take k) = (nums p pl).take k := by simp [nums, List.map_take]
def PlOK (n : Nat) (pl : List Int) : Prop := (∀ x ∈ pl, 1 ≤ x ∧ x ≤ (n : Int)) ∧ pl.Pairwise (· < ·)
instance (n : Nat) (pl : List Int) : Decidable (PlOK n pl) := inferInstanceAs (Decidable (_ ∧ _))
theorem PlOK.nil (n : Nat) : PlOK n [] := ⟨fun x hx => by simp at hx, List.Pairwise.nil⟩
theorem PlOK.take {n : Nat} {pl : List Int} (h : PlOK n pl) (k : Nat) : PlOK n (pl.take k) := ⟨fun x hx => h.1 x (List.mem_of_mem_take hx), h.2.sublist (List.take_sublist _ _)⟩
theorem PlOK.mono {n : Nat} {pl : List Int} (h : PlOK n pl) {i j : Nat} (hij : i < j) (hj : j < pl.length) : at0 pl i < at0 pl j := by
  have := List.pairwise_iff_getElem.1 h.2 i j (by omega) hj hij
  rw [at0_of (List.getElem?_eq_getElem (show i < pl.length by omega)), at0_of (List.getElem?_eq_getElem hj)]
  exact this
theorem PlOK.rng {n : Nat} {pl : List Int} (h : PlOK n pl) {i : Nat} (hi : i < pl.length) : 1 ≤ at0 pl i ∧ at0 pl i ≤ (n : Int) := h.1 _ (at0_mem hi)
theorem nums_ne {p pl : List Int} (hp : isP p = true) (h : PlOK p.length pl) {i j : Nat} (hi : i < pl.length) (hj : j < pl.length) (hne : i ≠ j) : at0 (nums p pl) i ≠ at0 (nums p pl) j := by
  have r1 := h.rng hi
  have r2 := h.rng hj
  have hm : at0 pl i ≠ at0 pl j := by
    rcases Nat.lt_or_ge i j with h1 | h1
    · have := h.mono h1 hj; omega
    · have := h.mono (show j < i by omega) hi; omega
  rw [nums_at0 hi, nums_at0 hj]
  exact isP_ne hp (by omega) (by omega) (by omega)
/-- The last one of some places agrees with a pattern. -/
def fitL (p q pl : List Int) : Bool := (List.range (pl.length - 1)).all fun k => decide (at0 q k < at0 q (pl.length - 1)) == decide (at0 (nums p pl) k < at0 (nums p pl) (pl.length - 1))
theorem fitL_iff {p q pl : List Int} : fitL p q pl = true ↔ ∀ k, k < pl.length - 1 → (at0 q k < at0 q (pl.length - 1) ↔ at0 (nums p pl) k < at0 (nums p pl) (pl.length - 1)) := by
  unfold fitL
  rw [List.all_eq_true]
  simp only [List.mem_range, beq_iff_eq, decide_eq_decide]
theorem fitL_yes {p q pl : List Int} (h : ∀ k, k < pl.length - 1 → decide (at0 q k < at0 q (pl.length - 1)) = decide (at0 (nums p pl) k < at0 (nums p pl) (pl.length - 1))) : fitL p q pl = true := by
  rw [fitL_iff]
  intro k hk
  exact decide_eq_decide.1 (h k hk)
theorem fitL_no {p q pl : List Int} {k : Nat} (hk : k < pl.length - 1) (h : decide (at0 q k < at0 q (pl.length - 1)) ≠ decide (at0 (nums p pl) k < at0 (nums p pl) (pl.length - 1))) : fitL p q pl = false := by
  cases hf : fitL p q pl with
  | false => rfl
  | true => exact absurd (decide_eq_decide.2 (fitL_iff.1 hf k hk)) h
theorem fits_alike {p q pl : List Int} (hp : isP p = true) (hq : isP q = true) (hl : pl.length = q.length) (h : PlOK p.length pl) : (∀ k, k < pl.length → fitL p q (pl.take (k + 1)) = true) ↔ Alike (nums p pl) q := by
  have hlt : ∀ k, k < pl.length → (pl.take (k + 1)).length = k + 1 := fun k hk => by rw [List.length_take]; omega
  have key : ∀ k, k < pl.length → (fitL p q (pl.take (k + 1)) = true ↔ ∀ i, i < k → (at0 q i < at0 q k ↔ at0 (nums p pl) i < at0 (nums p pl) k)) := fun k hk => by
    rw [fitL_iff, hlt k hk, Nat.add_sub_cancel, nums_take]
    have hpl := nums_length p pl
    constructor
    · intro h i hi
      have := h i hi
      rwa [at0_take (by omega) (by omega), at0_take (by omega) (by omega)] at this
    · intro h i hi
      rw [at0_take (by omega) (by omega), at0_take (by omega) (by omega)]
      exact h i hi
  constructor
  · intro hf
    refine ⟨by rw [nums_length]; exact hl, fun i j hi hj => ?_⟩
    rw [nums_length] at hi hj
    rcases Nat.lt_trichotomy i j with h1 | h1 | h1
    · exact ((key j hj).1 (hf j hj) i h1).symm
    · subst h1; exact ⟨fun h => by omega, fun h => by omega⟩
    · have h2 := (key i hi).1 (hf i hi) j h1
      have n1 := nums_ne hp h hi hj (by omega)
      have n2 := isP_ne hq (i := i) (j := j) (by omega) (by omega) (by omega)
      constructor
      · intro h3; by_cases h4 : at0 q j < at0 q i
        · have := h2.1 h4; omega
        · omega
      · intro h3; by_cases h4 : at0 (nums p pl) j < at0 (nums p pl) i
        · have := h2.2 h4; omega
        · omega
  · intro ha k hk
    rw [key k hk]
    intro i hi
    exact (ha.2 i k (by rw [nums_length]; omega) (by rw [nums_length]; omega)).symm

/-- The last place, or none. -/
def lastP (head : List Int) : Nat := (head.getLast?.getD 0).toNat
theorem lastP_nil : lastP [] = 0 := rfl
theorem lastP_snoc (head : List Int) (x : Int) : lastP (head ++ [x]) = x.toNat := by simp [lastP]
theorem lastP_at {head : List Int} (h : 0 < head.length) : lastP head = (at0 head (head.length - 1)).toNat := by
  unfold lastP
  rw [List.getLast?_eq_getElem?, at0_some (by omega)]; rfl
theorem lastP_le {n : Nat} {head : List Int} (h : PlOK n head) : lastP head ≤ n := by
  cases head with
  | nil => rw [lastP_nil]; omega
  | cons a l =>
    rw [lastP_at (by simp)]
    have := h.rng (i := (a :: l).length - 1) (by simp)
    omega
theorem PlOK.snoc {n : Nat} {head : List Int} {x : Int} : PlOK n (head ++ [x]) ↔ PlOK n head ∧ (lastP head : Int) < x ∧ x ≤ (n : Int) := by
  unfold PlOK
  rw [List.pairwise_append]
  constructor
  · rintro ⟨h1, h2, _, h3⟩
    refine ⟨⟨fun y hy => h1 y (by simp [hy]), h2⟩, ?_, (h1 x (by simp)).2⟩
    by_cases h0 : 0 < head.length
    · have h4 := h3 (at0 head (head.length - 1)) (at0_mem (by omega)) x (by simp)
      have h5 := h1 x (by simp)
      rw [lastP_at h0]; omega
    · have : head = [] := List.eq_nil_of_length_eq_zero (by omega)
      subst this
      have h5 := h1 x (by simp)
      rw [lastP_nil]; omega
  · rintro ⟨h1, h2, h3⟩
    refine ⟨fun y hy => ?_, h1.2, by simp, fun a ha b hb => ?_⟩
    · rcases List.mem_append.1 hy with h | h
      · exact h1.1 y h
      · simp at h; subst h; omega
    · simp at hb; subst hb
      have hr := h1.1 a ha
      obtain ⟨i, hi, rfl⟩ := List.getElem_of_mem ha
      have h0 : 0 < head.length := by omega
      have e : at0 head i = head[i] := at0_of (List.getElem?_eq_getElem hi)
      have : at0 head i ≤ at0 head (head.length - 1) := by
        by_cases hh : i = head.length - 1
        · rw [← hh]; exact Int.le_refl _
        · have := PlOK.mono (n := n) h1 (i := i) (j := head.length - 1) (by omega) (by omega); omega
      rw [lastP_at h0] at h2
      have hr2 := PlOK.rng (n := n) h1 (i := head.length - 1) (by omega)
      omega

/-- The occurrences that begin with head and have m places more. -/
def extL (p q : List Int) : Nat → List Int → List (List Int)
  | 0, head => [head]
  | m + 1, head => (List.range (p.length - lastP head)).flatMap fun i => if fitL p q (head ++ [((lastP head + i + 1 : Nat) : Int)]) then extL p q m (head ++ [((lastP head + i + 1 : Nat) : Int)]) else []
/-- .. of the first j of the next places. -/
def extK (p q : List Int) (m : Nat) (head : List Int) (j : Nat) : List (List Int) := (List.range j).flatMap fun i => if fitL p q (head ++ [((lastP head + i + 1 : Nat) : Int)]) then extL p q m (head ++ [((lastP head + i + 1 : Nat) : Int)]) else []
theorem extK_all (p q : List Int) (m : Nat) (head : List Int) : extK p q m head (p.length - lastP head) = extL p q (m + 1) head := rfl
theorem extK_zero (p q : List Int) (m : Nat) (head : List Int) : extK p q m head 0 = [] := rfl
theorem extK_yes {p q : List Int} {m : Nat} {head : List Int} {j : Nat} (h : fitL p q (head ++ [((lastP head + j + 1 : Nat) : Int)]) = true) : extK p q m head (j + 1) = extK p q m head j ++ extL p q m (head ++ [((lastP head + j + 1 : Nat) : Int)]) := by
  unfold extK
  rw [List.range_succ, List.flatMap_append, List.flatMap_cons, List.flatMap_nil, List.append_nil, if_pos h]
theorem extK_no {p q : List Int} {m : Nat} {head : List Int} {j : Nat} (h : fitL p q (head ++ [((lastP head + j + 1 : Nat) : Int)]) = false) : extK p q m head (j + 1) = extK p q m head j := by
  unfold extK
  rw [List.range_succ, List.flatMap_append, List.flatMap_cons, List.flatMap_nil, List.append_nil, if_neg (by rw [h]; exact Bool.false_ne_true), List.append_nil]
theorem mem_extL {p q : List Int} : ∀ (m : Nat) (head pl : List Int), PlOK p.length head → (pl ∈ extL p q m head ↔ ∃ tl, pl = head ++ tl ∧ tl.length = m ∧ PlOK p.length pl ∧ ∀ k, head.length ≤ k → k < pl.length → fitL p q (pl.take (k + 1)) = true)
  | 0, head, pl, h => by
    rw [extL, List.mem_singleton]
    constructor
    · rintro rfl
      exact ⟨[], by simp, rfl, h, fun k h1 h2 => by omega⟩
    · rintro ⟨tl, rfl, h1, _⟩
      rw [List.eq_nil_of_length_eq_zero h1, List.append_nil]
  | m + 1, head, pl, h => by
    have hle := lastP_le h
    rw [extL, List.mem_flatMap]
    constructor
    · rintro ⟨i, hi, hm⟩
      rw [List.mem_range] at hi
      by_cases hf : fitL p q (head ++ [((lastP head + i + 1 : Nat) : Int)]) = true
      · rw [if_pos hf] at hm
        have hh : PlOK p.length (head ++ [((lastP head + i + 1 : Nat) : Int)]) := PlOK.snoc.2 ⟨h, by omega, by omega⟩
        obtain ⟨tl, rfl, h1, h2, h3⟩ := (mem_extL m _ pl hh).1 hm
        refine ⟨((lastP head + i + 1 : Nat) : Int) :: tl, by rw [List.append_assoc]; rfl, by simp [h1], h2, fun k hk1 hk2 => ?_⟩
        by_cases hk : k = head.length
        · subst hk
          rw [List.take_append_of_le_length (by simp), List.take_of_length_le (by simp)]
          exact hf
        · exact h3 k (by simp; omega) hk2
      · rw [if_neg hf] at hm; cases hm
    · rintro ⟨tl, rfl, h1, h2, h3⟩
      match tl, h1 with
      | x :: tl, h1 =>
        have hx : PlOK p.length (head ++ [x]) := by
          have := h2.take (head.length + 1)
          rwa [show head ++ x :: tl = head ++ [x] ++ tl by simp, List.take_append_of_le_length (by simp), List.take_of_length_le (by simp)] at this
        obtain ⟨_, hx1, hx2⟩ := PlOK.snoc.1 hx
        have hxe : ((lastP head + (x.toNat - lastP head - 1) + 1 : Nat) : Int) = x := by omega
        refine ⟨x.toNat - lastP head - 1, List.mem_range.2 (by omega), ?_⟩
        rw [hxe]
        have hf := h3 head.length (Nat.le_refl _) (by simp)
        rw [show head ++ x :: tl = head ++ [x] ++ tl by simp, List.take_append_of_le_length (by simp), List.take_of_length_le (by simp)] at hf
        rw [if_pos hf, mem_extL m _ _ hx]
        exact ⟨tl, by simp, by simpa using h1, h2, fun k hk1 hk2 => h3 k (by simp at hk1; omega) hk2⟩
theorem extL_len {p q : List Int} : ∀ (m : Nat) (head pl : List Int), pl ∈ extL p q m head → pl.length = head.length + m
  | 0, head, pl, h => by rw [extL, List.mem_singleton] at h; subst h; rfl
  | m + 1, head, pl, h => by
    rw [extL, List.mem_flatMap] at h
    obtain ⟨i, _, h⟩ := h
    by_cases hf : fitL p q (head ++ [((lastP head + i + 1 : Nat) : Int)]) = true
    · rw [if_pos hf] at h
      have := extL_len m _ pl h
      simp at this; omega
    · rw [if_neg hf] at h; cases h
theorem extL_pre {p q : List Int} : ∀ (m : Nat) (head pl : List Int), pl ∈ extL p q m head → ∃ tl, pl = head ++ tl
  | 0, head, pl, h => by rw [extL, List.mem_singleton] at h; subst h; exact ⟨[], by simp⟩
  | m + 1, head, pl, h => by
    rw [extL, List.mem_flatMap] at h
    obtain ⟨i, _, h⟩ := h
    by_cases hf : fitL p q (head ++ [((lastP head + i + 1 : Nat) : Int)]) = true
    · rw [if_pos hf] at h
      obtain ⟨tl, rfl⟩ := extL_pre m _ pl h
      exact ⟨_ :: tl, by simp; rfl⟩
    · rw [if_neg hf] at h; cases h
theorem lexL_app (h : List Int) (a b : List Int) : lexL (h ++ a) (h ++ b) = lexL a b := by
  induction h with
  | nil => rfl
  | cons x h ih => rw [List.cons_append, List.cons_append, lexL, if_pos rfl, ih]
theorem extL_asc {p q : List Int} : ∀ (m : Nat) (head : List Int), Asc (extL p q m head)
  | 0, head => by rw [extL]; exact List.pairwise_singleton _ _
  | m + 1, head => by
    rw [extL]
    unfold Asc
    rw [List.pairwise_flatMap]
    constructor
    · intro i _
      split
      · exact extL_asc m _
      · exact List.Pairwise.nil
    · refine List.Pairwise.imp ?_ List.pairwise_lt_range
      intro i j hij x hx y hy
      split at hx
      · split at hy
        · have l1 := extL_len m _ x hx
          have l2 := extL_len m _ y hy
          obtain ⟨t, rfl⟩ := extL_pre m _ x hx
          obtain ⟨s, rfl⟩ := extL_pre m _ y hy
          simp only [List.length_append, List.length_singleton] at l1 l2
          rw [befL_eq (by simp; omega), List.append_assoc, List.append_assoc, lexL_app, List.singleton_append, List.singleton_append, lexL, if_neg (by omega)]
          simp; omega
        · cases hy
      · cases hx
/-- The occurrences of q in p. -/
def occR (p q : List Int) : List (List Int) := if isP p && isP q then extL p q q.length [] else []
theorem occR_yes {p q : List Int} (hp : isP p = true) (hq : isP q = true) : occR p q = extL p q q.length [] := by unfold occR; rw [if_pos (by simp [hp, hq])]
theorem occR_no {p q : List Int} (h : isP p = false ∨ isP q = false) : occR p q = [] := by
  unfold occR
  rw [if_neg (by rcases h with h | h <;> simp [h])]
def isOcc (p q pl : List Int) : Bool := isP p && (isP q && (decide (pl.length = q.length) && (decide (PlOK p.length pl) && decide (patL (nums p pl) = q))))
theorem isOcc_iff {p q pl : List Int} : isOcc p q pl = true ↔ isP p = true ∧ isP q = true ∧ pl.length = q.length ∧ PlOK p.length pl ∧ patL (nums p pl) = q := by
  unfold isOcc
  simp only [Bool.and_eq_true, decide_eq_true_eq]
theorem mem_occ {p q pl : List Int} : pl ∈ occR p q ↔ isOcc p q pl = true := by
  rw [isOcc_iff]
  cases hp : isP p with
  | false => rw [occR_no (.inl hp)]; simp
  | true =>
    cases hq : isP q with
    | false => rw [occR_no (.inr hq)]; simp
    | true =>
      rw [occR_yes hp hq, mem_extL q.length [] pl (PlOK.nil _)]
      constructor
      · rintro ⟨tl, rfl, h1, h2, h3⟩
        exact ⟨rfl, rfl, h1, h2, (pat_eq_iff hq).2 ((fits_alike hp hq h1 h2).1 fun k hk => h3 k (Nat.zero_le _) hk)⟩
      · rintro ⟨_, _, h1, h2, h3⟩
        exact ⟨pl, by simp, h1, h2, fun k _ hk => (fits_alike hp hq h1 h2).2 ((pat_eq_iff hq).1 h3) k hk⟩
theorem occ_asc (p q : List Int) : Asc (occR p q) := by
  unfold occR
  split
  · exact extL_asc _ _
  · exact List.Pairwise.nil
end Go.Proofs.Ytknjgehcaadomaa
