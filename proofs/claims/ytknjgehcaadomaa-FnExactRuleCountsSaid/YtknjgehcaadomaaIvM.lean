
/-
  PLAIN: intervals of a permutation, their list, closures. Nothing here speaks of the program.
-/
import Derived.Test.YtknjgehcaadomaaPermM
import Derived.Test.YtknjgehcaadomaaPermF
import Derived.Test.YtknjgehcaadomaaSumM
namespace Go.Proofs.Ytknjgehcaadomaa
set_option maxRecDepth 100000

/-- The least and the greatest number of a list. -/
def lo (l : List Int) : Int := l.foldl min 8
def hi (l : List Int) : Int := l.foldl max 1
theorem lo_nil : lo [] = 8 := rfl
theorem hi_nil : hi [] = 1 := rfl
theorem lo_snoc (l : List Int) (z : Int) : lo (l ++ [z]) = min (lo l) z := by simp [lo]
theorem hi_snoc (l : List Int) (z : Int) : hi (l ++ [z]) = max (hi l) z := by simp [hi]
theorem snoc_ind {P : List Int → Prop} (h0 : P []) (h1 : ∀ l z, P l → P (l ++ [z])) (l : List Int) : P l := by
  have : ∀ (n : Nat) (l : List Int), l.length = n → P l := fun n => by
    induction n with
    | zero => intro l hl; rw [List.eq_nil_of_length_eq_zero hl]; exact h0
    | succ n ih =>
      intro l hl
      have hne : l ≠ [] := fun e => by subst e; cases hl
      rw [← List.dropLast_concat_getLast hne]
      exact h1 _ _ (ih _ (by rw [List.length_dropLast]; omega))
  exact this _ l rfl
theorem lo_le (l : List Int) : (∀ x ∈ l, lo l ≤ x) ∧ lo l ≤ 8 := by
  induction l using snoc_ind with
  | h0 => simp [lo]
  | h1 l z ih =>
    rw [lo_snoc]
    refine ⟨fun x hx => ?_, by have := ih.2; omega⟩
    rcases List.mem_append.1 hx with hx | hx
    · have := ih.1 x hx; omega
    · rw [List.mem_singleton] at hx; subst hx; omega
theorem le_hi (l : List Int) : (∀ x ∈ l, x ≤ hi l) ∧ 1 ≤ hi l := by
  induction l using snoc_ind with
  | h0 => simp [hi]
  | h1 l z ih =>
    rw [hi_snoc]
    refine ⟨fun x hx => ?_, by have := ih.2; omega⟩
    rcases List.mem_append.1 hx with hx | hx
    · have := ih.1 x hx; omega
    · rw [List.mem_singleton] at hx; subst hx; omega
theorem le_lo {l : List Int} {m : Int} (hm : m ≤ 8) : (∀ x ∈ l, m ≤ x) → m ≤ lo l := by
  induction l using snoc_ind with
  | h0 => intro _; exact hm
  | h1 l z ih =>
    intro h
    rw [lo_snoc]
    have h1 := ih fun x hx => h x (by simp [hx])
    have h2 := h z (by simp)
    omega
theorem hi_le {l : List Int} {m : Int} (hm : 1 ≤ m) : (∀ x ∈ l, x ≤ m) → hi l ≤ m := by
  induction l using snoc_ind with
  | h0 => intro _; exact hm
  | h1 l z ih =>
    intro h
    rw [hi_snoc]
    have h1 := ih fun x hx => h x (by simp [hx])
    have h2 := h z (by simp)
    omega

/-- m numbers from place a on. -/
def seg (p : List Int) (a m : Nat) : List Int := (p.drop a).take m
theorem seg_zero (p : List Int) (a : Nat) : seg p a 0 = [] := by simp [seg]
theorem seg_snoc {p : List Int} {a k : Nat} {z : Int} (h : p[a + k]? = some z) : seg p a (k + 1) = seg p a k ++ [z] := by
  unfold seg
  rw [List.take_add_one, List.getElem?_drop, h]; rfl
theorem seg_one {p : List Int} {a : Nat} {z : Int} (h : p[a]? = some z) : seg p a 1 = [z] := by
  have := seg_snoc (p := p) (a := a) (k := 0) h
  rwa [seg_zero, List.nil_append] at this
theorem seg_length {p : List Int} {a m : Nat} (h : a + m ≤ p.length) : (seg p a m).length = m := by unfold seg; rw [List.length_take, List.length_drop]; omega
theorem mem_seg {p : List Int} {a m : Nat} {x : Int} : x ∈ seg p a m ↔ ∃ j, a ≤ j ∧ j < a + m ∧ p[j]? = some x := by
  unfold seg
  rw [List.mem_iff_getElem?]
  constructor
  · rintro ⟨i, hi⟩
    have hm : i < m := by have := (List.getElem?_eq_some_iff.1 hi).1; rw [List.length_take] at this; omega
    rw [List.getElem?_take_of_lt hm, List.getElem?_drop] at hi
    exact ⟨a + i, by omega, by omega, hi⟩
  · rintro ⟨j, h1, h2, h3⟩
    refine ⟨j - a, ?_⟩
    rw [List.getElem?_take_of_lt (by omega), List.getElem?_drop, show a + (j - a) = j by omega]
    exact h3
theorem seg_sub {p : List Int} {a m : Nat} {x : Int} (h : x ∈ seg p a m) : x ∈ p := by
  obtain ⟨j, _, _, h⟩ := mem_seg.1 h
  exact List.mem_of_getElem? h
theorem seg_nodup {p : List Int} {a m : Nat} (h : p.Nodup) : (seg p a m).Nodup := (h.sublist (List.drop_sublist _ _)).sublist (List.take_sublist _ _)
theorem seg_all (p : List Int) : seg p 0 p.length = p := by simp [seg]

/-- The numbers from x on, m of them. -/
def frm' (x : Int) (m : Nat) : List Int := (List.range m).map fun j : Nat => x + (j : Int)
theorem frm'_length (x : Int) (m : Nat) : (frm' x m).length = m := by simp [frm']
theorem mem_frm' {x y : Int} {m : Nat} : y ∈ frm' x m ↔ x ≤ y ∧ y < x + m := by
  unfold frm'
  rw [List.mem_map]
  constructor
  · rintro ⟨j, hj, rfl⟩
    have := List.mem_range.1 hj
    omega
  · rintro ⟨h1, h2⟩
    exact ⟨(y - x).toNat, List.mem_range.2 (by omega), by omega⟩
theorem frm'_nodup (x : Int) (m : Nat) : (frm' x m).Nodup := by
  unfold frm'
  rw [List.nodup_iff_pairwise_ne, List.pairwise_map]
  exact List.nodup_range.imp fun h e => h (by omega)
/-- As many different ones as there are places: every one is there. -/
theorem pigeon_all {l m : List Int} (hnd : l.Nodup) (h : ∀ x ∈ l, x ∈ m) (hl : m.length ≤ l.length) : ∀ x ∈ m, x ∈ l := fun x hx => by
  by_cases hin : x ∈ l
  · exact hin
  · have := pigeon_le (l := x :: l) (m := m) (List.nodup_cons.2 ⟨hin, hnd⟩) (fun y hy => by
      rcases List.mem_cons.1 hy with rfl | hy
      · exact hx
      · exact h y hy)
    rw [List.length_cons] at this
    omega

/-- The k + 1 places from a on are an interval. -/
def iv (p : List Int) (a k : Nat) : Bool := decide (hi (seg p a (k + 1)) - lo (seg p a (k + 1)) = (k : Int))
theorem iv_true {p : List Int} {a k : Nat} : iv p a k = true ↔ hi (seg p a (k + 1)) - lo (seg p a (k + 1)) = (k : Int) := by simp [iv]
section
variable {p : List Int} (h : isP p = true)
include h
theorem isP_at {k : Nat} (hk : k < p.length) : ∃ z, p[k]? = some z ∧ 1 ≤ z ∧ z ≤ (p.length : Int) := by
  have hz := at0_some hk
  exact ⟨_, hz, isP_range h hz⟩
theorem isP_nodup : p.Nodup := (isP_true.1 h).2.2
theorem isP_has {x : Int} (h1 : 1 ≤ x) (h2 : x ≤ (p.length : Int)) : x ∈ p := by
  have := (nodup_iff_all (isP_true.1 h).2.1).1 (isP_true.1 h).2.2 (x - 1).toNat (by omega)
  rwa [show (((x - 1).toNat : Nat) : Int) + 1 = x by omega] at this
theorem isP_same {i j : Nat} {z : Int} (hi : p[i]? = some z) (hj : p[j]? = some z) : i = j := by
  obtain ⟨h1, e1⟩ := List.getElem?_eq_some_iff.1 hi
  obtain ⟨h2, e2⟩ := List.getElem?_eq_some_iff.1 hj
  have hn := List.pairwise_iff_getElem.1 (List.nodup_iff_pairwise_ne.1 (isP_nodup h))
  by_cases h3 : i < j
  · exact absurd (e1.trans e2.symm) (hn i j h1 h2 h3)
  · by_cases h4 : j < i
    · exact absurd (e2.trans e1.symm) (hn j i h2 h1 h4)
    · omega
theorem seg_bounds (a m : Nat) : ∀ x ∈ seg p a m, 1 ≤ x ∧ x ≤ 8 := fun x hx => by
  obtain ⟨j, _, _, hj⟩ := mem_seg.1 hx
  have := isP_range h hj
  have := isP_le h
  omega
theorem lo_ge (a m : Nat) : 1 ≤ lo (seg p a m) := le_lo (by omega) fun x hx => (seg_bounds h a m x hx).1
theorem hi_le8 (a m : Nat) : hi (seg p a m) ≤ 8 := hi_le (by omega) fun x hx => (seg_bounds h a m x hx).2
/-- The numbers of a run of places lie between its least and its greatest one. -/
theorem seg_frm {a m : Nat} (hm : a + m ≤ p.length) (h0 : 0 < m) : (m : Int) ≤ hi (seg p a m) - lo (seg p a m) + 1 := by
  have h1 := pigeon_le (l := seg p a m) (m := frm' (lo (seg p a m)) (hi (seg p a m) - lo (seg p a m) + 1).toNat) (seg_nodup (isP_nodup h)) (fun x hx => mem_frm'.2 (by
    have h2 := (lo_le (seg p a m)).1 x hx
    have h3 := (le_hi (seg p a m)).1 x hx
    omega))
  rw [seg_length hm, frm'_length] at h1
  omega
theorem lo_in {a m : Nat} (hm : a + m ≤ p.length) (h0 : 0 < m) : lo (seg p a m) ∈ seg p a m := by
  have : ∀ l : List Int, (∀ x ∈ l, x ≤ 8) → l ≠ [] → lo l ∈ l := fun l => by
    induction l using snoc_ind with
    | h0 => intro _ e; exact absurd rfl e
    | h1 l z ih =>
      intro hb _
      rw [lo_snoc, List.mem_append, List.mem_singleton]
      by_cases hl : l = []
      · subst hl
        have := hb z (by simp)
        rw [lo_nil]; right; omega
      · have h1 := ih (fun x hx => hb x (by simp [hx])) hl
        by_cases hz : z < lo l
        · right; omega
        · left; rwa [show min (lo l) z = lo l by omega]
  refine this _ (fun x hx => (seg_bounds h a m x hx).2) fun e => ?_
  have := seg_length hm
  rw [e] at this
  simp at this
  omega
theorem hi_in {a m : Nat} (hm : a + m ≤ p.length) (h0 : 0 < m) : hi (seg p a m) ∈ seg p a m := by
  have : ∀ l : List Int, (∀ x ∈ l, 1 ≤ x) → l ≠ [] → hi l ∈ l := fun l => by
    induction l using snoc_ind with
    | h0 => intro _ e; exact absurd rfl e
    | h1 l z ih =>
      intro hb _
      rw [hi_snoc, List.mem_append, List.mem_singleton]
      by_cases hl : l = []
      · subst hl
        have := hb z (by simp)
        rw [hi_nil]; right; omega
      · have h1 := ih (fun x hx => hb x (by simp [hx])) hl
        by_cases hz : hi l < z
        · right; omega
        · left; rwa [show max (hi l) z = hi l by omega]
  refine this _ (fun x hx => (seg_bounds h a m x hx).1) fun e => ?_
  have := seg_length hm
  rw [e] at this
  simp at this
  omega
/-- An interval has every number between two of its own. -/
theorem iv_has {a k : Nat} (hk : a + k < p.length) (hv : iv p a k = true) {x : Int} (h1 : lo (seg p a (k + 1)) ≤ x) (h2 : x ≤ hi (seg p a (k + 1))) : x ∈ seg p a (k + 1) := by
  have e := iv_true.1 hv
  refine pigeon_all (m := frm' (lo (seg p a (k + 1))) (k + 1)) (seg_nodup (isP_nodup h)) (fun x hx => mem_frm'.2 ?_) (by rw [frm'_length, seg_length (by omega)]; exact Nat.le_refl _) x (mem_frm'.2 (by omega))
  have h2 := (lo_le (seg p a (k + 1))).1 x hx
  have h3 := (le_hi (seg p a (k + 1))).1 x hx
  omega
theorem iv_one {a : Nat} (ha : a < p.length) : iv p a 0 = true := by
  obtain ⟨z, hz, h1, h2⟩ := isP_at h ha
  have := isP_le h
  rw [iv_true, seg_one hz]
  simp only [lo, hi, List.foldl_cons, List.foldl_nil]
  omega
theorem iv_whole (h0 : 0 < p.length) : iv p 0 (p.length - 1) = true := by
  have h8 := isP_le h
  rw [iv_true, show p.length - 1 + 1 = p.length by omega, seg_all]
  have h1 := (lo_le p).1 1 (isP_has h (by omega) (by omega))
  have h2 := (le_hi p).1 (p.length : Int) (isP_has h (by omega) (by omega))
  have h3 := le_lo (l := p) (m := 1) (by omega) fun x hx => ((isP_true.1 h).2.1 x hx).1
  have h4 := hi_le (l := p) (m := (p.length : Int)) (by omega) fun x hx => ((isP_true.1 h).2.1 x hx).2
  omega
end

/-- The intervals from place a on, of at most k places; those from the first a places on. -/
def rowI (p : List Int) (a : Nat) : Nat → List (Int × Int)
  | 0 => []
  | k + 1 => rowI p a k ++ (if iv p a k then [((a : Int) + 1, (a : Int) + k + 1)] else [])
def ivK (p : List Int) : Nat → List (Int × Int)
  | 0 => []
  | a + 1 => ivK p a ++ rowI p a (p.length - a)
def ivL (p : List Int) : List (Int × Int) := ivK p p.length
theorem rowI_yes {p : List Int} {a k : Nat} (h : iv p a k = true) : rowI p a (k + 1) = rowI p a k ++ [((a : Int) + 1, (a : Int) + k + 1)] := by rw [rowI, if_pos h]
theorem rowI_no {p : List Int} {a k : Nat} (h : iv p a k = false) : rowI p a (k + 1) = rowI p a k := by rw [rowI, if_neg (by simp [h]), List.append_nil]
theorem mem_rowI {p : List Int} {a k : Nat} {x : Int × Int} : x ∈ rowI p a k ↔ ∃ j, j < k ∧ x = ((a : Int) + 1, (a : Int) + j + 1) ∧ iv p a j = true := by
  induction k with
  | zero => simp [rowI]
  | succ k ih =>
    cases hv : iv p a k with
    | true =>
      rw [rowI_yes hv, List.mem_append, ih, List.mem_singleton]
      constructor
      · rintro (⟨j, h1, h2⟩ | h1)
        · exact ⟨j, by omega, h2⟩
        · exact ⟨k, by omega, h1, hv⟩
      · rintro ⟨j, h1, h2, h3⟩
        by_cases hj : j = k
        · subst hj; exact .inr h2
        · exact .inl ⟨j, by omega, h2, h3⟩
    | false =>
      rw [rowI_no hv, ih]
      constructor
      · rintro ⟨j, h1, h2⟩; exact ⟨j, by omega, h2⟩
      · rintro ⟨j, h1, h2, h3⟩
        by_cases hj : j = k
        · subst hj; rw [hv] at h3; cases h3
        · exact ⟨j, by omega, h2, h3⟩
theorem mem_ivK {p : List Int} {m : Nat} {x : Int × Int} : x ∈ ivK p m ↔ ∃ a j, a < m ∧ a + j < p.length ∧ x = ((a : Int) + 1, (a : Int) + j + 1) ∧ iv p a j = true := by
  induction m with
  | zero => simp [ivK]
  | succ m ih =>
    rw [ivK, List.mem_append, ih, mem_rowI]
    constructor
    · rintro (⟨a, j, h1, h2⟩ | ⟨j, h1, h2⟩)
      · exact ⟨a, j, by omega, h2⟩
      · exact ⟨m, j, by omega, by omega, h2⟩
    · rintro ⟨a, j, h1, h2, h3⟩
      by_cases ha : a = m
      · subst ha; exact .inr ⟨j, by omega, h3⟩
      · exact .inl ⟨a, j, by omega, h2, h3⟩
theorem mem_ivL {p : List Int} {x : Int × Int} : x ∈ ivL p ↔ ∃ a j, a + j < p.length ∧ x = ((a : Int) + 1, (a : Int) + j + 1) ∧ iv p a j = true := by
  rw [ivL, mem_ivK]
  constructor
  · rintro ⟨a, j, h1, h2⟩; exact ⟨a, j, h2⟩
  · rintro ⟨a, j, h2⟩; exact ⟨a, j, by omega, h2⟩
theorem rowI_le (p : List Int) (a k : Nat) : (rowI p a k).length ≤ k := by
  induction k with
  | zero => simp [rowI]
  | succ k ih =>
    rw [rowI, List.length_append]
    split <;> simp <;> omega
theorem ivK_le (p : List Int) (m : Nat) : (ivK p m).length ≤ m * p.length := by
  induction m with
  | zero => simp [ivK]
  | succ m ih =>
    rw [ivK, List.length_append, Nat.add_mul]
    have := rowI_le p m (p.length - m)
    omega
theorem ivL_le {p : List Int} (h : isP p = true) : (ivL p).length ≤ 64 := by
  have h1 := ivK_le p p.length
  have h8 := isP_le h
  have : p.length * p.length ≤ 8 * 8 := Nat.mul_le_mul h8 h8
  unfold ivL; omega
/-- What impl.IsInterval asks, what spec.IsInterval asks. -/
def isIv (p : List Int) (f t : Int) : Bool := isP p && decide (1 ≤ f ∧ f ≤ t ∧ t ≤ (p.length : Int)) && iv p (f - 1).toNat (t - f).toNat
theorem isIv_mem {p : List Int} (f t : Int) : isIv p f t = (isP p && decide ((f, t) ∈ ivL p)) := by
  cases hp : isP p with
  | false => simp [isIv, hp]
  | true =>
    rw [Bool.eq_iff_iff]
    simp only [isIv, hp, Bool.true_and, Bool.and_eq_true, decide_eq_true_eq, mem_ivL]
    constructor
    · rintro ⟨⟨h1, h2, h3⟩, h4⟩
      refine ⟨(f - 1).toNat, (t - f).toNat, by omega, ?_, h4⟩
      rw [Prod.mk.injEq]; omega
    · rintro ⟨a, j, h1, h2, h3⟩
      rw [Prod.mk.injEq] at h2
      obtain ⟨rfl, rfl⟩ := h2
      refine ⟨by omega, ?_⟩
      rwa [show ((a : Int) + 1 - 1).toNat = a by omega, show ((a : Int) + j + 1 - (a + 1)).toNat = j by omega]

/-- The intervals that IntervalsOf lists. -/
def rowS (p : List Int) (a : Nat) : Nat → List (List Int)
  | 0 => []
  | k + 1 => rowS p a k ++ (if (1 ≤ k ∧ k + 1 < p.length) ∧ iv p a k = true then [[(a : Int) + 1, (a : Int) + k + 1]] else [])
def ivSK (p : List Int) : Nat → List (List Int)
  | 0 => []
  | a + 1 => ivSK p a ++ rowS p a (p.length - a)
def ivsR (p : List Int) : List (List Int) := if isP p then ivSK p p.length else []
theorem ivsR_yes {p : List Int} (h : isP p = true) : ivsR p = ivSK p p.length := by unfold ivsR; rw [if_pos h]
theorem ivsR_no {p : List Int} (h : isP p = false) : ivsR p = [] := by unfold ivsR; rw [if_neg (by simp [h])]
theorem rowS_yes {p : List Int} {a k : Nat} (h1 : 1 ≤ k ∧ k + 1 < p.length) (h : iv p a k = true) : rowS p a (k + 1) = rowS p a k ++ [[(a : Int) + 1, (a : Int) + k + 1]] := by rw [rowS, if_pos ⟨h1, h⟩]
theorem rowS_no1 {p : List Int} {a k : Nat} (h : ¬ (1 ≤ k ∧ k + 1 < p.length)) : rowS p a (k + 1) = rowS p a k := by rw [rowS, if_neg (fun e => h e.1), List.append_nil]
theorem rowS_no {p : List Int} {a k : Nat} (h : iv p a k = false) : rowS p a (k + 1) = rowS p a k := by rw [rowS, if_neg (fun e => by rw [h] at e; exact absurd e.2 (by simp)), List.append_nil]
/-- Those of more than one place and not of all places. -/
def inner (n : Int) (x : Int × Int) : Bool := decide (x.1 < x.2) && !decide (x = ((1 : Int), n))
def two (x : Int × Int) : List Int := [x.1, x.2]
def pick (n : Int) (l : List (Int × Int)) : List (List Int) := (l.filter (inner n)).map two
theorem pick_append (n : Int) (l m : List (Int × Int)) : pick n (l ++ m) = pick n l ++ pick n m := by simp [pick]
theorem pick_yes {n : Int} {l : List (Int × Int)} {x : Int × Int} (h : inner n x = true) : pick n (l ++ [x]) = pick n l ++ [two x] := by simp [pick, h]
theorem pick_no {n : Int} {l : List (Int × Int)} {x : Int × Int} (h : inner n x = false) : pick n (l ++ [x]) = pick n l := by simp [pick, h]
theorem inner_at {p : List Int} {a k : Nat} (hk : a + k < p.length) : inner p.length ((a : Int) + 1, (a : Int) + k + 1) = decide (1 ≤ k ∧ k + 1 < p.length) := by
  rw [Bool.eq_iff_iff]
  simp only [inner, Bool.and_eq_true, Bool.not_eq_true', decide_eq_true_eq, decide_eq_false_iff_not, Prod.mk.injEq]
  omega
theorem pick_row {p : List Int} {a k : Nat} (hk : a + k ≤ p.length) : pick p.length (rowI p a k) = rowS p a k := by
  induction k with
  | zero => rfl
  | succ k ih =>
    cases hv : iv p a k with
    | false => rw [rowI_no hv, rowS_no hv, ih (by omega)]
    | true =>
      have hi := inner_at (p := p) (a := a) (k := k) (by omega)
      by_cases hc : 1 ≤ k ∧ k + 1 < p.length
      · rw [rowI_yes hv, rowS_yes hc hv, pick_yes (by rw [hi]; simp [hc]), ih (by omega)]; rfl
      · rw [rowI_yes hv, rowS_no1 hc, pick_no (by rw [hi]; simp; omega), ih (by omega)]
theorem pick_K {p : List Int} {m : Nat} (hm : m ≤ p.length) : pick p.length (ivK p m) = ivSK p m := by
  induction m with
  | zero => rfl
  | succ m ih => rw [ivK, ivSK, pick_append, ih (by omega), pick_row (by omega)]
theorem pick_all (p : List Int) : pick p.length (ivL p) = ivSK p p.length := pick_K (Nat.le_refl _)
theorem pick_le (n : Int) (l : List (Int × Int)) : (pick n l).length ≤ l.length := by
  unfold pick
  rw [List.length_map]
  exact List.length_filter_le _ _
theorem tot_two (l : List (Int × Int)) : tot (l.map two) = 2 * l.length := by
  induction l with
  | nil => rfl
  | cons x l ih =>
    have e : tot ((x :: l).map two) = 2 + tot (l.map two) := by simp [tot, two]
    rw [e, ih, List.length_cons]; omega
theorem ivsR_small (p : List Int) : (ivsR p).length ≤ 64 ∧ tot (ivsR p) ≤ 128 := by
  cases h : isP p with
  | false => rw [ivsR_no h]; simp [tot]
  | true =>
    rw [ivsR_yes h, ← pick_all]
    have h1 := pick_le p.length (ivL p)
    have h2 := ivL_le h
    refine ⟨by omega, ?_⟩
    have h3 : (pick p.length (ivL p)).length = ((ivL p).filter (inner p.length)).length := by simp [pick]
    unfold pick
    rw [tot_two]
    omega
theorem mem_ivsR {p : List Int} {z : List Int} (h : z ∈ ivsR p) : isP p = true ∧ ∃ f t : Int, z = [f, t] ∧ isIv p f t = true ∧ 1 ≤ f ∧ f ≤ 8 ∧ 1 ≤ t ∧ t ≤ 8 := by
  cases hp : isP p with
  | false => rw [ivsR_no hp] at h; cases h
  | true =>
    rw [ivsR_yes hp, ← pick_all] at h
    obtain ⟨x, hx, rfl⟩ := List.mem_map.1 h
    have hm := (List.mem_filter.1 hx).1
    refine ⟨rfl, x.1, x.2, rfl, ?_, ?_⟩
    · rw [isIv_mem, hp]; simpa using hm
    · obtain ⟨a, j, h1, rfl, _⟩ := mem_ivL.1 hm
      have := isP_le hp
      simp only
      omega

/-- How many there are. -/
theorem count_row {p : List Int} (h : isP p = true) {a k : Nat} (hk : a + k ≤ p.length) : (rowI p a k).length = (rowS p a k).length + (if 1 ≤ k then 1 else 0) + (if a = 0 ∧ k = p.length ∧ 2 ≤ k then 1 else 0) := by
  induction k with
  | zero => simp [rowI, rowS]
  | succ k ih =>
    have h1 := ih (by omega)
    rw [if_neg (show ¬ (a = 0 ∧ k = p.length ∧ 2 ≤ k) by omega)] at h1
    by_cases h0 : k = 0
    · subst h0
      rw [rowI_yes (iv_one h (by omega)), rowS_no1 (by omega), List.length_append, h1]
      simp
    · rw [if_pos (show 1 ≤ k by omega)] at h1
      rw [if_pos (show 1 ≤ k + 1 by omega)]
      by_cases hw : k + 1 = p.length
      · have hv := iv_whole h (by omega)
        rw [← hw, Nat.add_sub_cancel] at hv
        have ha : a = 0 := by omega
        subst ha
        rw [rowI_yes hv, rowS_no1 (by omega), List.length_append, h1, if_pos (by omega)]
        rfl
      · rw [if_neg (show ¬ (a = 0 ∧ k + 1 = p.length ∧ 2 ≤ k + 1) by omega)]
        cases hv : iv p a k with
        | true => rw [rowI_yes hv, rowS_yes (by omega) hv, List.length_append, List.length_append, h1]; simp
        | false => rw [rowI_no hv, rowS_no hv, h1]
theorem count_K {p : List Int} (h : isP p = true) {m : Nat} (hm : m ≤ p.length) : (ivK p m).length = (ivSK p m).length + m + (if 1 ≤ m ∧ 2 ≤ p.length then 1 else 0) := by
  induction m with
  | zero => simp [ivK, ivSK]
  | succ m ih =>
    have h1 := ih (by omega)
    have h2 := count_row h (a := m) (k := p.length - m) (by omega)
    rw [if_pos (show 1 ≤ p.length - m by omega)] at h2
    rw [ivK, ivSK, List.length_append, List.length_append, h1, h2]
    by_cases h0 : m = 0
    · subst h0
      rw [if_neg (show ¬ (1 ≤ 0 ∧ 2 ≤ p.length) by omega)]
      by_cases h2 : 2 ≤ p.length
      · rw [if_pos (show _ ∧ _ ∧ _ by omega), if_pos (show _ ∧ _ by omega)]; omega
      · rw [if_neg (show ¬ (_ ∧ _ ∧ _) by omega), if_neg (show ¬ (_ ∧ _) by omega)]; omega
    · rw [if_neg (show ¬ (m = 0 ∧ p.length - m = p.length ∧ 2 ≤ p.length - m) by omega)]
      by_cases h2 : 2 ≤ p.length
      · rw [if_pos (show 1 ≤ m ∧ 2 ≤ p.length by omega), if_pos (show 1 ≤ m + 1 ∧ 2 ≤ p.length by omega)]; omega
      · rw [if_neg (show ¬ (1 ≤ m ∧ 2 ≤ p.length) by omega), if_neg (show ¬ (1 ≤ m + 1 ∧ 2 ≤ p.length) by omega)]; omega
def cntR (p : List Int) : Int := if isP p then ((ivL p).length : Int) else -1
theorem cntR_yes {p : List Int} (h : isP p = true) : cntR p = ((ivL p).length : Int) := by unfold cntR; rw [if_pos h]
theorem cntR_no {p : List Int} (h : isP p = false) : cntR p = -1 := by unfold cntR; rw [if_neg (by simp [h])]
theorem cntR_sum {p : List Int} (h : isP p = true) : cntR p = ((ivsR p).length : Int) + (p.length : Int) + (if 1 < p.length then 1 else 0) := by
  rw [cntR_yes h, ivsR_yes h, ivL, count_K h (Nat.le_refl _)]
  by_cases h2 : 2 ≤ p.length
  · rw [if_pos (show 1 ≤ p.length ∧ 2 ≤ p.length by omega), if_pos (show 1 < p.length by omega)]; omega
  · rw [if_neg (show ¬ (1 ≤ p.length ∧ 2 ≤ p.length) by omega), if_neg (show ¬ 1 < p.length by omega)]; omega
theorem isIv_no0 {p : List Int} {f t : Int} (h : isP p = false) : isIv p f t = false := by simp [isIv, h]
theorem isIv_no {p : List Int} {f t : Int} (h : ¬ (1 ≤ f ∧ f ≤ t ∧ t ≤ (p.length : Int))) : isIv p f t = false := by
  unfold isIv
  rw [show decide (1 ≤ f ∧ f ≤ t ∧ t ≤ (p.length : Int)) = false from decide_eq_false h]; simp
theorem isIv_at {p : List Int} {a k : Nat} (hp : isP p = true) (h : a + k < p.length) : isIv p ((a : Int) + 1) ((a : Int) + 1 + k) = iv p a k := by
  unfold isIv
  rw [hp, show decide (1 ≤ (a : Int) + 1 ∧ (a : Int) + 1 ≤ (a : Int) + 1 + k ∧ (a : Int) + 1 + k ≤ (p.length : Int)) = true from decide_eq_true (by omega), show ((a : Int) + 1 - 1).toNat = a by omega, show ((a : Int) + 1 + k - (a + 1)).toNat = k by omega]
  simp
def simpleP (p : List Int) : Bool := isP p && decide (0 < p.length) && decide ((ivsR p).length = 0)
end Go.Proofs.Ytknjgehcaadomaa
