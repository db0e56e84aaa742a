/-
  Words and contracts that the laws lean on, bundled: SepM, SepT, Cmp, Put, OccS, OccF, OccR, PutG, RootS.
-/
import Derived.Test.YtinnlhfdgbeibaaGreatB7
import Derived.Test.YtinnlhfdgbeibaaGreatB2
import Derived.Test.YtinnlhfdgbeibaaGreatB3
import Derived.Sort.Grow
import Derived.Outline
import Derived.Test.YtinnlhfdgbeibaaGreatB1
import Derived.Test.YtinnlhfdgbeibaaGreatB4
import Derived.Deep.RegionHeld3
import Derived.Test.YtinnlhfdgbeibaaGreatB6
import Derived.Maps.AppendAt

/-
  PLAIN: cuts of a permutation, and the two patterns that a permutation without cuts has. Nothing here speaks of the program.
-/

namespace Go.Proofs.YtinnlhfdgbeibaaGreat
set_option maxRecDepth 100000

/-! four places -/
/-- v has 3142 (with s false), 2413 (with s true: with all signs turned) among its first n places. -/
def Four (v : Nat → Int) (n : Nat) : Prop := ∃ i j k l, i < j ∧ j < k ∧ k < l ∧ l < n ∧ v j < v l ∧ v l < v i ∧ v i < v k
def Low (v : Nat → Int) (n k : Nat) : Prop := ∀ i j, i < k → k ≤ j → j < n → v i < v j
def neg (v : Nat → Int) : Nat → Int := fun i => - v i
theorem neg_neg (v : Nat → Int) : neg (neg v) = v := by funext i; simp [neg]
def Inj (v : Nat → Int) (n : Nat) : Prop := ∀ i j, i < n → j < n → v i = v j → i = j
/-- One number more behind a list that has a cut. -/
theorem cut_more {v : Nat → Int} {n k : Nat} (hi : Inj v (n + 1)) (hf : ¬ Four v (n + 1)) (h0 : 0 < k) (hk : k < n) (hc : Low v n k) :
    ∃ m, 0 < m ∧ m < n + 1 ∧ (Low v (n + 1) m ∨ Low (neg v) (n + 1) m) := by
  by_cases h1 : ∀ i, i < k → v i < v n
  · exact ⟨k, h0, by omega, .inl fun i j hi' hj hjn => by
      by_cases e : j = n
      · subst e; exact h1 i hi'
      · exact hc i j hi' hj (by omega)⟩
  · by_cases h2 : ∀ i, i < n → v n < v i
    · exact ⟨n, by omega, by omega, .inr fun i j hi' hj hjn => by
        obtain rfl : j = n := by omega
        have := h2 i hi'
        simp only [neg]; omega⟩
    · -- some a in the first k is greater, some c less
      have h1' : ∃ a, a < k ∧ ¬ v a < v n := Classical.byContradiction fun hx => h1 fun i hi' => Classical.byContradiction fun hh => hx ⟨i, hi', hh⟩
      have h2' : ∃ c, c < n ∧ ¬ v n < v c := Classical.byContradiction fun hx => h2 fun i hi' => Classical.byContradiction fun hh => hx ⟨i, hi', hh⟩
      obtain ⟨a, ha, hga⟩ := h1'
      obtain ⟨c, hcn, hlc⟩ := h2'
      have hga : v n < v a := by
        have : v a ≠ v n := fun e => by have := hi a n (by omega) (by omega) e; omega
        omega
      have hlc : v c < v n := by
        have : v c ≠ v n := fun e => by have := hi c n (by omega) (by omega) e; omega
        omega
      have hck : c < k := Classical.byContradiction fun hx => by
        have := hc a c ha (by omega) hcn
        omega
      have hb : v a < v k := hc a k ha (Nat.le_refl _) hk
      -- the lesser ones come first
      have key : ∀ i j, i < k → j < k → v i < v n → v n < v j → i < j := fun i j hi' hj h3 h4 => Classical.byContradiction fun hx => by
        have hne : i ≠ j := fun e => by subst e; omega
        exact hf ⟨j, i, k, n, by omega, hi', hk, by omega, h3, h4, hc j k hj (Nat.le_refl _) hk⟩
      -- how many come first
      have hex : ∃ m, m ≤ k ∧ (∀ i, i < m → v i < v n) ∧ (∀ j, m ≤ j → j < k → v n < v j) := by
        have : ∀ m, m ≤ k → (∀ j, m ≤ j → j < k → v n < v j) → ∃ m, m ≤ k ∧ (∀ i, i < m → v i < v n) ∧ (∀ j, m ≤ j → j < k → v n < v j) := fun m => by
          induction m with
          | zero => intro _ h; exact ⟨0, Nat.zero_le _, fun i hi' => by omega, h⟩
          | succ m ih =>
            intro hm h
            by_cases hv : v n < v m
            · exact ih (by omega) fun j h5 h6 => by
                by_cases e : j = m
                · subst e; exact hv
                · exact h j (by omega) h6
            · have hvm : v m < v n := by
                have : v m ≠ v n := fun e => by have := hi m n (by omega) (by omega) e; omega
                omega
              refine ⟨m + 1, hm, fun i hi' => ?_, h⟩
              by_cases e : i = m
              · subst e; exact hvm
              · refine Classical.byContradiction fun hh => ?_
                have hh2 : v n < v i := by
                  have : v i ≠ v n := fun e => by have := hi i n (by omega) (by omega) e; omega
                  omega
                have := key m i (by omega) (by omega) hvm hh2
                omega
        exact this k (Nat.le_refl _) fun j h5 h6 => by omega
      obtain ⟨m, hm, hm1, hm2⟩ := hex
      have hm0 : 0 < m := Nat.pos_of_ne_zero fun e => by have := hm2 c (by omega) hck; omega
      refine ⟨m, hm0, by omega, .inl fun i j hi' hj hjn => ?_⟩
      have hvi := hm1 i hi'
      by_cases hjk : j < k
      · have := hm2 j hj hjk; omega
      · by_cases e : j = n
        · subst e; exact hvi
        · exact hc i j (by omega) (by omega) (by omega)
/-- A list of two or more that has neither pattern has a cut. -/
theorem cut_exists {v : Nat → Int} : ∀ n, 2 ≤ n → Inj v n → ¬ Four v n → ¬ Four (neg v) n → ∃ k, 0 < k ∧ k < n ∧ (Low v n k ∨ Low (neg v) n k) := fun n => by
  induction n with
  | zero => intro h; omega
  | succ n ih =>
    intro h2 hi hf hg
    by_cases h1 : n = 1
    · subst h1
      refine ⟨1, by omega, by omega, ?_⟩
      have hne : v 0 ≠ v 1 := fun e => by have := hi 0 1 (by omega) (by omega) e; omega
      by_cases hl : v 0 < v 1
      · exact .inl fun i j h3 h4 h5 => by
          obtain rfl : i = 0 := by omega
          obtain rfl : j = 1 := by omega
          exact hl
      · exact .inr fun i j h3 h4 h5 => by
          obtain rfl : i = 0 := by omega
          obtain rfl : j = 1 := by omega
          simp only [neg]; omega
    · have hi' : Inj v n := fun i j a b e => hi i j (by omega) (by omega) e
      have less : ∀ {u : Nat → Int}, Four u n → Four u (n + 1) := fun ⟨i, j, k, l, a, b, c, d, r⟩ => ⟨i, j, k, l, a, b, c, by omega, r⟩
      obtain ⟨k, k0, kn, hc⟩ := ih (by omega) hi' (fun h => hf (less h)) (fun h => hg (less h))
      rcases hc with hc | hc
      · exact cut_more hi hf k0 kn hc
      · have hin : Inj (neg v) (n + 1) := fun i j a b e => hi i j a b (by simp only [neg] at e; omega)
        obtain ⟨m, a, b, c⟩ := cut_more hin hg k0 kn hc
        rw [neg_neg] at c
        exact ⟨m, a, b, c.symm⟩
/-- What has a cut has the patterns on one side of it alone. -/
theorem four_cut {v : Nat → Int} {n k : Nat} (hk : k ≤ n) (hc : Low v n k ∨ Low (neg v) n k) (hf : Four v n) : Four v k ∨ Four (fun i => v (k + i)) (n - k) := by
  obtain ⟨i, j, a, l, h1, h2, h3, h4, h5, h6, h7⟩ := hf
  by_cases hl : l < k
  · exact .inl ⟨i, j, a, l, h1, h2, h3, hl, h5, h6, h7⟩
  · by_cases hi : k ≤ i
    · refine .inr ⟨i - k, j - k, a - k, l - k, by omega, by omega, by omega, by omega, ?_⟩
      simp only [show k + (i - k) = i by omega, show k + (j - k) = j by omega, show k + (a - k) = a by omega, show k + (l - k) = l by omega]
      exact ⟨h5, h6, h7⟩
    · exfalso
      rcases hc with hc | hc
      · have := hc i l (by omega) (by omega) h4; omega
      · have e1 := hc i l (by omega) (by omega) h4
        simp only [neg] at e1
        -- 3 1 4 2 turned: the first number is less than the third
        by_cases ha : a < k
        · have := hc j l (by omega) (by omega) h4
          simp only [neg] at this; omega
        · have := hc i a (by omega) (by omega) (by omega)
          simp only [neg] at this; omega

/-! permutations -/
def valAt (p : List Int) : Nat → Int := fun i => at0 p i
theorem val_inj {p : List Int} (hp : isP p = true) : Inj (valAt p) p.length := fun i j hi hj e => isP_same hp (at0_some hi) (by rw [show at0 p i = at0 p j from e]; exact at0_some hj)
theorem low_most {p : List Int} (hp : isP p = true) {k : Nat} (hk : k ≤ p.length) (hc : Low (valAt p) p.length k) : most (p.take k) = k := by
  have hl : (p.take k).length = k := by rw [List.length_take]; omega
  have hP : isP (p.take k) = true := by
    refine isP_true.2 ⟨by have := isP_le hp; omega, fun x hx => ?_, (isP_true.1 hp).2.2.sublist (List.take_sublist _ _)⟩
    have hxp := List.mem_of_mem_take hx
    refine ⟨((isP_true.1 hp).2.1 x hxp).1, ?_⟩
    rw [hl]
    have h1 := cnt_isP hp hxp
    have h2 : cnt p x = cnt (p.take k) x + cnt (p.drop k) x := by rw [← cnt_app, List.take_append_drop]
    have h3 : cnt (p.drop k) x = 0 := by
      unfold cnt
      rw [List.length_eq_zero_iff, List.filter_eq_nil_iff]
      intro y hy
      obtain ⟨i, hi, rfl⟩ := List.getElem_of_mem hx
      obtain ⟨j, hj, rfl⟩ := List.getElem_of_mem hy
      rw [hl] at hi
      rw [List.length_drop] at hj
      have := hc i (k + j) hi (by omega) (by omega)
      simp only [valAt] at this
      rw [at0_of (List.getElem?_eq_getElem (show i < p.length by omega)), at0_of (List.getElem?_eq_getElem (show k + j < p.length by omega))] at this
      rw [List.getElem_take, List.getElem_drop]
      simp; omega
    have h4 := cnt_mem hx
    rw [hl] at h4
    omega
  have := most_isP hP
  rw [this, hl]
theorem most_low {p : List Int} (hp : isP p = true) {k : Nat} (hk : k ≤ p.length) (hc : most (p.take k) = k) : Low (valAt p) p.length k := fun i j hi hj hjn => by
  have hP := cut_isP hp hk hc
  have hl : (p.take k).length = k := by rw [List.length_take]; omega
  have h1 : at0 p i ∈ p.take k := by rw [← at0_take hi (by omega)]; exact at0_mem (by omega)
  have h2 := (isP_true.1 hP).2.1 _ h1
  rw [hl] at h2
  have h3 : at0 p j ∉ p.take k := fun hm => by
    obtain ⟨q, hq, e⟩ := List.getElem_of_mem hm
    rw [hl] at hq
    rw [List.getElem_take] at e
    have := isP_same hp (List.getElem?_eq_getElem (show q < p.length by omega)) (by rw [e]; exact at0_some hjn)
    omega
  have h4 := (isP_true.1 hp).2.1 _ (at0_mem hjn)
  have h5 : ¬ at0 p j ≤ (k : Int) := fun h => h3 (isP_has hP h4.1 (by rw [hl]; exact h))
  show at0 p i < at0 p j
  omega
theorem prt_mono (p : List Int) (k : Nat) : (prt p k).length ≤ (prt p (k + 1)).length := by
  rw [prt]; split
  · rw [List.length_append]; omega
  · exact Nat.le_refl _
theorem prt_more (p : List Int) (k j : Nat) : (prt p k).length ≤ (prt p (k + j)).length := by
  induction j with
  | zero => exact Nat.le_refl _
  | succ j ih => exact Nat.le_trans ih (prt_mono p (k + j))
theorem parts_cut {p : List Int} (hp : isP p = true) {k : Nat} (h0 : 0 < k) (hk : k < p.length) (hc : Low (valAt p) p.length k) : 1 < (partsR p).length := by
  have hm := low_most hp (Nat.le_of_lt hk) hc
  rw [partsR_yes hp]
  obtain ⟨a, rfl⟩ : ∃ a, k = a + 1 := ⟨k - 1, by omega⟩
  obtain ⟨b, hb⟩ : ∃ b, p.length = b + 1 := ⟨p.length - 1, by omega⟩
  have h1 : 1 ≤ (prt p (a + 1)).length := by rw [prt_yes (by rw [hm]; omega), List.length_append]; simp
  have h2 := prt_more p (a + 1) (b - (a + 1))
  rw [show a + 1 + (b - (a + 1)) = b by omega] at h2
  have h3 : most (p.take (b + 1)) = (b : Int) + 1 := by rw [← hb, List.take_length, most_isP hp]; omega
  rw [hb, prt_yes h3, List.length_append, List.length_singleton]
  omega
theorem cut_parts {p : List Int} (hp : isP p = true) (h : 1 < (partsR p).length) : ∃ k, 0 < k ∧ k < p.length ∧ Low (valAt p) p.length k := by
  rw [partsR_yes hp] at h
  obtain ⟨j, h0, h1, h2⟩ := cut_between h
  exact ⟨j, h0, h1, most_low hp (Nat.le_of_lt h1) h2⟩
theorem cpl_at {p : List Int} {i : Nat} (h : i < p.length) : at0 (cplL p) i = (p.length : Int) + 1 - at0 p i := at0_of (by unfold cplL; rw [List.getElem?_map, at0_some h]; rfl)
theorem low_cpl {p : List Int} {k : Nat} (hk : k ≤ p.length) : Low (valAt (cplL p)) (cplL p).length k ↔ Low (neg (valAt p)) p.length k := by
  rw [cplL_length]
  constructor
  · intro h i j hi hj hjn
    have := h i j hi hj hjn
    simp only [valAt] at this
    rw [cpl_at (by omega), cpl_at hjn] at this
    simp only [neg, valAt]; omega
  · intro h i j hi hj hjn
    have := h i j hi hj hjn
    simp only [neg, valAt] at this
    simp only [valAt]
    rw [cpl_at (by omega), cpl_at hjn]; omega
theorem skews_cut {p : List Int} (hp : isP p = true) {k : Nat} (h0 : 0 < k) (hk : k < p.length) (hc : Low (neg (valAt p)) p.length k) : 1 < (skewsR p).length := by
  rw [skewsR_yes hp, List.length_map]
  exact parts_cut (isP_cpl hp) h0 (by rw [cplL_length]; exact hk) ((low_cpl (Nat.le_of_lt hk)).2 hc)
theorem cut_skews {p : List Int} (hp : isP p = true) (h : 1 < (skewsR p).length) : ∃ k, 0 < k ∧ k < p.length ∧ Low (neg (valAt p)) p.length k := by
  rw [skewsR_yes hp, List.length_map] at h
  obtain ⟨k, h0, h1, h2⟩ := cut_parts (isP_cpl hp) h
  rw [cplL_length] at h1
  exact ⟨k, h0, h1, (low_cpl (Nat.le_of_lt h1)).1 h2⟩
end Go.Proofs.YtinnlhfdgbeibaaGreat


/-
  PLAIN: separable permutations are told by two patterns. Nothing here speaks of the program.
-/

namespace Go.Proofs.YtinnlhfdgbeibaaGreat
set_option maxRecDepth 100000

/-! the first part and the others -/
theorem joinL_assoc (s : Bool) (a b c : List Int) : joinL s (joinL s a b) c = joinL s a (joinL s b c) := by
  cases s with
  | false =>
    simp only [joinL, Bool.false_eq_true, if_false, List.map_append, List.append_assoc, List.map_map, List.length_append, List.length_map]
    congr 2
    refine List.map_congr_left fun v _ => ?_
    simp only [Function.comp]; omega
  | true =>
    simp only [joinL, if_true, List.map_append, List.append_assoc, List.map_map, List.length_append, List.length_map]
    congr 1
    refine List.map_congr_left fun v _ => ?_
    simp only [Function.comp]; omega
theorem joinL_nil (s : Bool) (a : List Int) : joinL s [] a = a := by cases s <;> simp [joinL]
theorem foldl_joinL (s : Bool) : ∀ (r : List (List Int)) (a b : List Int), r.foldl (joinL s) (joinL s a b) = joinL s a (r.foldl (joinL s) b)
  | [], _, _ => rfl
  | z :: r, a, b => by rw [List.foldl_cons, List.foldl_cons, joinL_assoc, foldl_joinL s r]
theorem joinAll_cons (s : Bool) (x : List Int) (r : List (List Int)) : joinAll s (x :: r) = joinL s x (joinAll s r) := by
  unfold joinAll
  rw [List.foldl_cons, joinL_nil, ← foldl_joinL]
  have e : joinL s x [] = x := by cases s <;> simp [joinL]
  rw [e]
/-- A sum is the first part joined with the others. -/
theorem sum_split {s : Bool} {l : List (List Int)} (hp : ∀ z ∈ l, isP z = true) (ht : tot l ≤ 8) (h1 : 1 < l.length) : ∃ a b, sumPcs s l = [a, b] ∧ joinAll s l = joinL s a b := by
  match l, h1 with
  | x :: y :: r, _ =>
    have e1 : tot (x :: y :: r) = x.length + tot (y :: r) := by simp [tot]
    have hf : allFit (y :: r) = true := allFit_yes (fun z hz => hp z (by simp at hz ⊢; right; exact hz)) (by omega)
    refine ⟨x, joinAll s (y :: r), ?_, joinAll_cons s x (y :: r)⟩
    simp only [sumPcs, List.headD_cons, List.drop_succ_cons, List.drop_zero]
    rw [joinsR_yes hf]
/-- What a permutation of two or more is: a sum or a skew sum of its two parts, or neither. -/
theorem pcs_cases {p : List Int} (hp : isP p = true) (h2 : 2 ≤ p.length) :
    (∃ s a b, rootP p = sumRoot s ∧ pcsP p = [a, b] ∧ p = joinL s a b) ∨ (¬ 1 < (partsR p).length ∧ ¬ 1 < (skewsR p).length ∧ rootP p = patL (topsOf p (cuts p 0)) ∧ pcsP p = pcsOf p (cuts p 0)) := by
  have h8 := isP_le hp
  have hn : ¬ p.length = 1 := by omega
  by_cases h3 : 1 < (partsR p).length
  · have ht := partsR_tot hp
    obtain ⟨a, b, e1, e2⟩ := sum_split (s := false) (l := partsR p) (fun z hz => partsR_isP hz) (by omega) h3
    refine .inl ⟨false, a, b, by unfold rootP; rw [if_neg hn, if_pos h3], by unfold pcsP; rw [if_neg hn, if_pos h3, e1], ?_⟩
    rw [← e2, join_parts hp]
  · by_cases h4 : 1 < (skewsR p).length
    · have ht := skewsR_tot hp
      obtain ⟨a, b, e1, e2⟩ := sum_split (s := true) (l := skewsR p) (fun z hz => skewsR_isP hz) (by omega) h4
      refine .inl ⟨true, a, b, by unfold rootP; rw [if_neg hn, if_neg h3, if_pos h4], by unfold pcsP; rw [if_neg hn, if_neg h3, if_pos h4, e1], ?_⟩
      have := joins_skews hp
      rw [joinsR_yes (skews_fit p)] at this
      rw [← e2, this]
    · exact .inr ⟨h3, h4, by unfold rootP; rw [if_neg hn, if_neg h3, if_neg h4], by unfold pcsP; rw [if_neg hn, if_neg h3, if_neg h4]⟩

/-! patterns in joined permutations -/
theorem four_mono {v u : Nat → Int} {n m : Nat} (o : Nat) (hn : o + n ≤ m) (h : ∀ i j, i < n → j < n → (v i < v j ↔ u (o + i) < u (o + j))) (hf : Four v n) : Four u m := by
  obtain ⟨i, j, k, l, h1, h2, h3, h4, h5, h6, h7⟩ := hf
  exact ⟨o + i, o + j, o + k, o + l, by omega, by omega, by omega, by omega, (h j l (by omega) h4).1 h5, (h l i h4 (by omega)).1 h6, (h i k (by omega) (by omega)).1 h7⟩
theorem at0_app_right {a b : List Int} {i : Nat} (h : i < b.length) : at0 (a ++ b) (a.length + i) = at0 b i := at0_of (by rw [List.getElem?_append_right (by omega), Nat.add_sub_cancel_left]; exact at0_some h)
theorem at0_map {l : List Int} {f : Int → Int} {i : Nat} (h : i < l.length) : at0 (l.map f) i = f (at0 l i) := at0_of (by rw [List.getElem?_map, at0_some h]; rfl)
theorem join_left {s : Bool} {a b : List Int} {i : Nat} (h : i < a.length) : at0 (joinL s a b) i = at0 a i + (if s then (b.length : Int) else 0) := by
  cases s with
  | false => simp only [joinL, Bool.false_eq_true, if_false]; rw [at0_app h]; omega
  | true => simp only [joinL, if_true]; rw [at0_app (by simpa using h), at0_map h]
theorem join_right {s : Bool} {a b : List Int} {i : Nat} (h : i < b.length) : at0 (joinL s a b) (a.length + i) = at0 b i + (if s then 0 else (a.length : Int)) := by
  cases s with
  | false => simp only [joinL, Bool.false_eq_true, if_false]; rw [at0_app_right (by simpa using h), at0_map h]
  | true =>
    simp only [joinL, if_true]
    have := at0_app_right (a := a.map fun v => v + (b.length : Int)) (b := b) h
    rw [List.length_map] at this
    rw [this]; omega
/-- A joined permutation has a cut between its parts. -/
theorem join_cut {s : Bool} {a b : List Int} (ha : isP a = true) (hb : isP b = true) : if s then Low (neg (valAt (joinL s a b))) (a.length + b.length) a.length else Low (valAt (joinL s a b)) (a.length + b.length) a.length := by
  have key : ∀ i j, i < a.length → a.length ≤ j → j < a.length + b.length → (1 ≤ at0 a i ∧ at0 a i ≤ a.length) ∧ (1 ≤ at0 b (j - a.length) ∧ at0 b (j - a.length) ≤ b.length) ∧ at0 (joinL s a b) i = at0 a i + (if s then (b.length : Int) else 0) ∧ at0 (joinL s a b) j = at0 b (j - a.length) + (if s then 0 else (a.length : Int)) := fun i j hi hj hjn => by
    refine ⟨(isP_true.1 ha).2.1 _ (at0_mem hi), (isP_true.1 hb).2.1 _ (at0_mem (by omega)), join_left hi, ?_⟩
    have := join_right (s := s) (a := a) (b := b) (i := j - a.length) (by omega)
    rwa [show a.length + (j - a.length) = j by omega] at this
  cases s with
  | false =>
    intro i j hi hj hjn
    obtain ⟨k1, k2, k3, k4⟩ := key i j hi hj hjn
    simp only [Bool.false_eq_true, if_false] at k3 k4
    simp only [valAt]; omega
  | true =>
    intro i j hi hj hjn
    obtain ⟨k1, k2, k3, k4⟩ := key i j hi hj hjn
    simp only [if_true] at k3 k4
    simp only [neg, valAt]; omega
theorem join_four {s : Bool} {a b : List Int} (ha : isP a = true) (hb : isP b = true) (g : Bool) :
    Four (if g then neg (valAt (joinL s a b)) else valAt (joinL s a b)) (joinL s a b).length ↔ (Four (if g then neg (valAt a) else valAt a) a.length ∨ Four (if g then neg (valAt b) else valAt b) b.length) := by
  have hl : (joinL s a b).length = a.length + b.length := joinL_length s a b
  have hc := join_cut (s := s) ha hb
  have e1 : ∀ i j, i < a.length → j < a.length → ((if g then neg (valAt a) else valAt a) i < (if g then neg (valAt a) else valAt a) j ↔ (if g then neg (valAt (joinL s a b)) else valAt (joinL s a b)) i < (if g then neg (valAt (joinL s a b)) else valAt (joinL s a b)) j) := fun i j hi hj => by
    have k1 := join_left (s := s) (b := b) hi
    have k2 := join_left (s := s) (b := b) hj
    cases g <;> simp only [Bool.false_eq_true, if_false, if_true, neg, valAt] <;> omega
  have e2 : ∀ i j, i < b.length → j < b.length → ((if g then neg (valAt b) else valAt b) i < (if g then neg (valAt b) else valAt b) j ↔ (if g then neg (valAt (joinL s a b)) else valAt (joinL s a b)) (a.length + i) < (if g then neg (valAt (joinL s a b)) else valAt (joinL s a b)) (a.length + j)) := fun i j hi hj => by
    have k1 := join_right (s := s) (a := a) hi
    have k2 := join_right (s := s) (a := a) hj
    cases g <;> simp only [Bool.false_eq_true, if_false, if_true, neg, valAt] <;> omega
  constructor
  · intro hf
    rw [hl] at hf
    have hcut : Low (if g then neg (valAt (joinL s a b)) else valAt (joinL s a b)) (a.length + b.length) a.length ∨ Low (neg (if g then neg (valAt (joinL s a b)) else valAt (joinL s a b))) (a.length + b.length) a.length := by
      cases s <;> cases g <;> simp only [Bool.false_eq_true, if_false, if_true, neg_neg] at hc ⊢
      · exact .inl hc
      · exact .inr hc
      · exact .inr hc
      · exact .inl hc
    rcases four_cut (Nat.le_add_right _ _) hcut hf with h | h
    · refine .inl (four_mono 0 (by omega) (fun i j hi hj => ?_) h)
      rw [Nat.zero_add, Nat.zero_add]
      exact (e1 i j hi hj).symm
    · refine .inr (four_mono 0 (by omega) (fun i j hi hj => ?_) h)
      rw [Nat.zero_add, Nat.zero_add]
      exact (e2 i j (by omega) (by omega)).symm
  · rintro (h | h)
    · refine four_mono 0 (by omega) (fun i j hi hj => ?_) h
      rw [Nat.zero_add, Nat.zero_add]
      exact e1 i j hi hj
    · exact four_mono a.length (by omega) (fun i j hi hj => e2 i j hi hj) h
/-- p has neither of the two patterns. -/
def Free (p : List Int) : Prop := ¬ Four (valAt p) p.length ∧ ¬ Four (neg (valAt p)) p.length
theorem free_join {s : Bool} {a b : List Int} (ha : isP a = true) (hb : isP b = true) : Free (joinL s a b) ↔ Free a ∧ Free b := by
  have h1 := join_four (s := s) ha hb false
  have h2 := join_four (s := s) ha hb true
  simp only [Bool.false_eq_true, if_false] at h1
  simp only [if_true] at h2
  unfold Free
  rw [h1, h2]
  constructor
  · rintro ⟨h3, h4⟩
    exact ⟨⟨fun h => h3 (.inl h), fun h => h4 (.inl h)⟩, ⟨fun h => h3 (.inr h), fun h => h4 (.inr h)⟩⟩
  · rintro ⟨⟨h3, h4⟩, ⟨h5, h6⟩⟩
    exact ⟨fun h => h.elim h3 h5, fun h => h.elim h4 h6⟩
theorem free_short {p : List Int} (h : p.length < 4) : Free p :=
  ⟨fun ⟨i, j, k, l, h1, h2, h3, h4, _⟩ => by omega, fun ⟨i, j, k, l, h1, h2, h3, h4, _⟩ => by omega⟩
theorem free_cut {p : List Int} (hp : isP p = true) (h2 : 2 ≤ p.length) (hf : Free p) : 1 < (partsR p).length ∨ 1 < (skewsR p).length := by
  obtain ⟨k, h0, hk, hc⟩ := cut_exists p.length h2 (val_inj hp) hf.1 hf.2
  rcases hc with hc | hc
  · exact .inl (parts_cut hp h0 hk hc)
  · exact .inr (skews_cut hp h0 hk hc)

/-! an interval's numbers are all on one side of each other number -/
theorem iv_side {p : List Int} (hp : isP p = true) {a k : Nat} (hk : a + k < p.length) (hv : iv p a k = true) {y : Int} (hy : y ∉ seg p a (k + 1)) : (∀ x ∈ seg p a (k + 1), x < y) ∨ (∀ x ∈ seg p a (k + 1), y < x) := by
  have h1 := lo_le (seg p a (k + 1))
  have h2 := le_hi (seg p a (k + 1))
  by_cases h3 : y < lo (seg p a (k + 1))
  · exact .inr fun x hx => by have := h1.1 x hx; omega
  · by_cases h4 : hi (seg p a (k + 1)) < y
    · exact .inl fun x hx => by have := h2.1 x hx; omega
    · exact absurd (iv_has hp hk hv (by omega) (by omega)) hy
theorem seg_at {p : List Int} {a m i : Nat} (h1 : a ≤ i) (h2 : i < a + m) (h3 : i < p.length) : at0 p i ∈ seg p a m := mem_seg.2 ⟨i, h1, h2, at0_some h3⟩
theorem seg_not {p : List Int} (hp : isP p = true) {a m i : Nat} (h : i < a ∨ a + m ≤ i) (h3 : i < p.length) : at0 p i ∉ seg p a m := fun hm => by
  obtain ⟨j, h1, h2, h4⟩ := mem_seg.1 hm
  have := isP_same hp (at0_some h3) h4
  omega
/-- Two intervals that make up everything: there is a cut between them. -/
theorem two_cut {p : List Int} (hp : isP p = true) {k : Nat} (h0 : 0 < k) (hk : k < p.length) (h1 : iv p 0 (k - 1) = true) (h2 : iv p k (p.length - k - 1) = true) : 1 < (partsR p).length ∨ 1 < (skewsR p).length := by
  have s1 := fun j (hj : k ≤ j) (hjn : j < p.length) => iv_side hp (a := 0) (k := k - 1) (by omega) h1 (y := at0 p j) (seg_not hp (.inr (by omega)) hjn)
  have s2 := fun i (hi : i < k) => iv_side hp (a := k) (k := p.length - k - 1) (by omega) h2 (y := at0 p i) (seg_not hp (.inl hi) (by omega))
  have m1 := fun i (hi : i < k) => seg_at (p := p) (a := 0) (m := k - 1 + 1) (i := i) (by omega) (by omega) (by omega)
  have m2 := fun j (hj : k ≤ j) (hjn : j < p.length) => seg_at (p := p) (a := k) (m := p.length - k - 1 + 1) (i := j) hj (by omega) hjn
  rcases s1 k (Nat.le_refl _) hk with h | h
  · refine .inl (parts_cut hp h0 hk fun i j hi hj hjn => ?_)
    have e1 := h _ (m1 i hi)
    rcases s2 i hi with g | g
    · have := g _ (m2 k (Nat.le_refl _) hk); omega
    · exact g _ (m2 j hj hjn)
  · refine .inr (skews_cut hp h0 hk fun i j hi hj hjn => ?_)
    have e1 := h _ (m1 i hi)
    rcases s2 i hi with g | g
    · have := g _ (m2 j hj hjn)
      simp only [neg, valAt]; omega
    · have := g _ (m2 k (Nat.le_refl _) hk); omega
/-- Where the root is not of a sum it has more than two numbers. -/
theorem cuts_three {p : List Int} (hp : isP p = true) (h2 : 2 ≤ p.length) (h3 : ¬ 1 < (partsR p).length) (h4 : ¬ 1 < (skewsR p).length) : 2 < (cuts p 0).length := by
  have hk := topK_ne (p := p) (a := 0) h2 (p.length - 1 - 0)
  have hle := topK_le p 0 (p.length - 1 - 0)
  have hiv := topK_iv hp (a := 0) (by omega) (p.length - 1 - 0)
  rw [cuts_yes (by omega)]
  generalize hK : topK p 0 (p.length - 1 - 0) = K at hk hle hiv
  have hk1 : 0 + K + 1 < p.length := by omega
  rw [cuts_yes hk1]
  by_cases h5 : 0 + K + 1 + topK p (0 + K + 1) (p.length - 1 - (0 + K + 1)) + 1 < p.length
  · rw [cuts_yes h5]; simp
  · exfalso
    have hle2 := topK_le p (0 + K + 1) (p.length - 1 - (0 + K + 1))
    have hiv2 := topK_iv hp (a := 0 + K + 1) hk1 (p.length - 1 - (0 + K + 1))
    have e : topK p (0 + K + 1) (p.length - 1 - (0 + K + 1)) = p.length - (K + 1) - 1 := by omega
    rw [e, show 0 + K + 1 = K + 1 by omega] at hiv2
    rcases two_cut hp (k := K + 1) (by omega) (by omega) (by simpa using hiv) hiv2 with h | h
    · exact h3 h
    · exact h4 h

def shortL (l : List (List Int)) : Prop := ∀ z ∈ l, z.length ≤ 2
/-- All roots in the tree are short exactly if the permutation has neither of the two patterns. -/
theorem short_free : ∀ (m : Nat) {p : List Int}, isP p = true → p.length ≤ m + 1 → (shortL (rtsF m p) ↔ Free p)
  | 0, p, _, hm => ⟨fun _ => free_short (by omega), fun _ z hz => by simp [rtsF] at hz⟩
  | m + 1, p, hp, hm => by
    by_cases h2 : p.length < 2
    · rw [rtsF_low h2]
      exact ⟨fun _ => free_short (by omega), fun _ z hz => by cases hz⟩
    · have hat := pcsP_at hp
      rw [rtsF_many h2]
      rcases pcs_cases hp (by omega) with ⟨s, a, b, e1, e2, e3⟩ | ⟨h3, h4, e1, e2⟩
      · rw [e2] at hat
        have ha := hat a (by simp)
        have hb := hat b (by simp)
        have la := ha.2.2.2 (by omega)
        have lb := hb.2.2.2 (by omega)
        have ia := short_free m ha.1 (by omega)
        have ib := short_free m hb.1 (by omega)
        rw [e1, e2, e3, free_join ha.1 hb.1, ← ia, ← ib]
        simp only [List.flatMap_cons, List.flatMap_nil, List.append_nil]
        constructor
        · intro h
          exact ⟨fun z hz => h z (by simp [hz]), fun z hz => h z (by simp [hz])⟩
        · rintro ⟨g1, g2⟩ z hz
          rcases List.mem_cons.1 hz with rfl | hz
          · cases s <;> simp [sumRoot]
          · rcases List.mem_append.1 hz with hz | hz
            · exact g1 z hz
            · exact g2 z hz
      · constructor
        · intro h
          exfalso
          have h5 := h (rootP p) (by simp)
          rw [e1, patL_length] at h5
          have := cuts_three hp (by omega) h3 h4
          simp only [topsOf, List.length_map] at h5
          omega
        · intro h
          exfalso
          rcases free_cut hp (by omega) h with g | g
          · exact h3 g
          · exact h4 g
end Go.Proofs.YtinnlhfdgbeibaaGreat


/-
  spec.l2Before, spec.l2Same; cmp.Compare, slices.Compare, cmp.Or, slices.Equal and impl.comparePerms, by their contracts.
-/

namespace Go.Proofs.YtinnlhfdgbeibaaGreat
set_option maxRecDepth 100000
open Go.RowKit

/-! plain -/
/-- slices.Compare's answer. -/
def lexV : List Int → List Int → Int
  | [], [] => 0
  | [], _ :: _ => -1
  | _ :: _, [] => 1
  | x :: xs, y :: ys => if x = y then lexV xs ys else if x < y then -1 else 1
theorem lexV_at : ∀ {p q : List Int} {k : Nat} {x y : Int}, p.take k = q.take k → p[k]? = some x → q[k]? = some y → x ≠ y → lexV p q = if x < y then -1 else 1
  | a :: p, b :: q, 0, x, y, _, hx, hy, hne => by
    simp at hx hy
    subst hx; subst hy
    rw [lexV, if_neg hne]
  | a :: p, b :: q, k + 1, x, y, h, hx, hy, hne => by
    simp at h
    obtain ⟨rfl, h⟩ := h
    rw [lexV, if_pos rfl]
    exact lexV_at h (by simpa using hx) (by simpa using hy) hne
  | [], _, k, _, _, _, hx, _, _ => by simp at hx
  | _ :: _, [], k, _, _, _, _, hy, _ => by simp at hy
theorem lexV_end : ∀ {p q : List Int} {k : Nat}, p.take k = q.take k → (k = p.length ∨ k = q.length) → k ≤ p.length → k ≤ q.length → lexV p q = if p.length < q.length then -1 else if q.length < p.length then 1 else 0
  | [], [], _, _, _, _, _ => by simp [lexV]
  | [], y :: q, _, _, _, _, _ => by simp [lexV]
  | x :: p, [], _, _, _, _, _ => by simp [lexV]
  | x :: p, y :: q, 0, _, h, _, _ => by simp at h
  | x :: p, y :: q, k + 1, h, hk, h1, h2 => by
    simp at h
    obtain ⟨rfl, h⟩ := h
    rw [lexV, if_pos rfl, lexV_end h (by simpa using hk) (by simpa using h1) (by simpa using h2)]
    simp
theorem lexV_lexL : ∀ {p q : List Int}, p.length = q.length → decide (lexV p q < 0) = lexL p q
  | [], [], _ => rfl
  | [], _ :: _, h => by simp at h
  | _ :: _, [], h => by simp at h
  | x :: p, y :: q, h => by
    rw [lexV, lexL]
    by_cases e : x = y
    · rw [if_pos e, if_pos e]
      exact lexV_lexL (by simpa using h)
    · rw [if_neg e, if_neg e]
      by_cases hl : x < y <;> simp [hl]
theorem lexV_small : ∀ (p q : List Int), -1 ≤ lexV p q ∧ lexV p q ≤ 1
  | [], [] => by simp [lexV]
  | [], _ :: _ => by simp [lexV]
  | _ :: _, [] => by simp [lexV]
  | x :: p, y :: q => by
    rw [lexV]
    split
    · exact lexV_small p q
    · split <;> omega
def cmpI (x y : Int) : Int := if x < y then -1 else if y < x then 1 else 0
/-- impl.comparePerms's answer. -/
def cmpV (p q : List Int) : Int := if cmpI p.length q.length = 0 then lexV p q else cmpI p.length q.length
theorem cmpV_befL (p q : List Int) : decide (cmpV p q < 0) = befL p q := by
  unfold cmpV cmpI befL
  by_cases h1 : (p.length : Int) < q.length
  · rw [if_pos h1, if_neg (by omega), if_neg (by omega)]
    simp; omega
  · rw [if_neg h1]
    by_cases h2 : (q.length : Int) < p.length
    · rw [if_pos h2, if_neg (by omega), if_neg (by omega)]
      simp; omega
    · rw [if_neg h2, if_pos rfl, if_pos (by omega)]
      exact lexV_lexL (by omega)
theorem cmpV_small (p q : List Int) : -1 ≤ cmpV p q ∧ cmpV p q ≤ 1 := by
  have h := lexV_small p q
  have h2 : -1 ≤ cmpI p.length q.length ∧ cmpI p.length q.length ≤ 1 := by
    unfold cmpI
    split
    · omega
    · split <;> omega
  unfold cmpV
  split
  · exact h
  · exact h2

theorem below_sgrow (w : World) (k : Nat) (os : Array Obj) : Below w.heap.size w (Sort.grow (w.drewN k) os) :=
  ⟨rfl, rfl, rfl, by unfold Sort.grow; simp [World.drewN], fun i hi => by unfold Sort.grow; exact Array.getElem?_append_left hi⟩

/-! contracts -/
set_option maxHeartbeats 400000 in
theorem l2bef_any (A A' : Option Addr) (n c B n' c' B' : Nat) (p q : List Int) (b : Bool) (hb : befL p q = b) (w : World) (h : Arg w B A n c p) (h' : Arg w B' A' n' c' q) :
    Calls Tryz.prog 99 #[.slice A n c, .slice A' n' c'] w fun e w' => e = .returned (.bool b) ∧ Drew w w' := by
  have hl := h.len
  have hl' := h'.len
  have hn := h.le
  have hn' := h'.le
  have hr := h.reads
  have hr' := h'.reads
  clear h h'
  by_cases he : n = n'
  · subst he
    rw [befL_eq (by omega)] at hb
    have HB := hide hb
    have HL := hide hl
    have HL' := hide hl'
    clear hb hl hl'
    go_enter Tryz.func99, Tryz.ntmps99
    go_wp2
    go_loopw [5] (fun i wr => ∃ k : Nat, k ≤ n ∧ i = .int .i64 k ∧ Drew w wr ∧ Hid (p.take k = q.take k)) (fun i _ => n - (intOf i).toNat)
    case atStart => exact ⟨0, Nat.zero_le _, rfl, Drew.refl _, by exact (rfl : p.take 0 = q.take 0)⟩
    case round =>
      obtain ⟨k, hk, rfl, hd, hs⟩ := hrel
      by_cases hlt : k < n
      · obtain ⟨ad, u, rfl, _, hu, hc⟩ := (hr.ofDrew hd).at_ hlt
        obtain ⟨ad', u', rfl, _, hu', hc'⟩ := (hr'.ofDrew hd).at_ hlt
        obtain ⟨x, hx, rfl⟩ := i64_at hu
        obtain ⟨y, hy, rfl⟩ := i64_at hu'
        have HD := hide hd
        clear hu hu' hr hr' hd
        by_cases hxy : x = y
        · subst hxy
          have hnext := hide (take_same_step (unhide hs) hx hy)
          clear hx hy hs
          go_wp2
          go_quiet (fail)
          go_wp2
          go_roundw
          case rel => exact ⟨k + 1, by omega, by go_num, (unhide HD).more _, hnext⟩
          case measure => simp [intOf]; omega
        · have hat := (unhide HB).symm.trans (lexL_at (unhide hs) hx hy hxy)
          have hne : (x == y) = false := by simpa using hxy
          clear hx hy hs HB hxy
          have hcc := hc
          have hcc' := hc'
          have HAT := hide hat
          clear hat
          go_wp2
          go_quiet (fail)
          go_wp2
          go_quiet (fail)
          go_wp2
          go_ret
          exact ⟨ret_bool (unhide HAT).symm, ((unhide HD).more _).more _⟩
      · obtain rfl : n = k := by omega
        obtain rfl : b = false := (unhide HB).symm.trans (lexL_end (unhide hs) (unhide HL) (unhide HL'))
        clear HB hs
        go_wp2
        go_ret
        exact ⟨rfl, hd⟩
  · rw [befL_ne (by omega), hl, hl'] at hb
    have hne : ((n : Int) == (n' : Int)) = false := by simp; omega
    have HB := hide hb
    clear hb hl hl' hr hr'
    go_enter Tryz.func99, Tryz.ntmps99
    go_wp2
    go_ret
    exact ⟨ret_bool (by rw [← unhide HB]), Drew.refl _⟩
theorem nan_any (x : Int) (w : World) : Calls Tryz.prog 115 #[.int .i64 x] w fun e w' => e = .returned (.bool false) ∧ w = w' := by
  go_enter Tryz.func115, Tryz.ntmps115
  go_wp2
  go_ret
  exact ⟨rfl, rfl⟩
theorem cmp_lt (x y : Int) (h : x < y) (w : World) : Calls Tryz.prog 97 #[.int .i64 x, .int .i64 y] w fun e w' => e = .returned (.int .i64 (-1)) ∧ w = w' := by
  go_enter Tryz.func97, Tryz.ntmps97
  go_wp2_with ((with_reducible refine (nan_any _ _).mono ?_); rintro e w' ⟨rfl, rfl⟩)
  go_ret
  exact ⟨rfl, rfl⟩
theorem cmp_gt (x y : Int) (h : y < x) (w : World) : Calls Tryz.prog 97 #[.int .i64 x, .int .i64 y] w fun e w' => e = .returned (.int .i64 1) ∧ w = w' := by
  have h' : ¬ x < y := by omega
  go_enter Tryz.func97, Tryz.ntmps97
  go_wp2_with ((with_reducible refine (nan_any _ _).mono ?_); rintro e w' ⟨rfl, rfl⟩)
  go_ret
  exact ⟨rfl, rfl⟩
theorem cmp_eq (x : Int) (w : World) : Calls Tryz.prog 97 #[.int .i64 x, .int .i64 x] w fun e w' => e = .returned (.int .i64 0) ∧ w = w' := by
  have h' : ¬ x < x := by omega
  go_enter Tryz.func97, Tryz.ntmps97
  go_wp2_with ((with_reducible refine (nan_any _ _).mono ?_); rintro e w' ⟨rfl, rfl⟩)
  go_ret
  exact ⟨rfl, rfl⟩
theorem cmp_any (x y : Int) (w : World) : Calls Tryz.prog 97 #[.int .i64 x, .int .i64 y] w fun e w' => e = .returned (.int .i64 (cmpI x y)) ∧ w = w' := by
  unfold cmpI
  by_cases h1 : x < y
  · rw [if_pos h1]; exact cmp_lt x y h1 w
  · rw [if_neg h1]
    by_cases h2 : y < x
    · rw [if_pos h2]; exact cmp_gt x y h2 w
    · rw [if_neg h2]
      obtain rfl : x = y := by omega
      exact cmp_eq x w
set_option maxHeartbeats 400000 in
theorem compare_any (A A' : Option Addr) (n c B n' c' B' : Nat) (p q : List Int) (w : World) (h : Arg w B A n c p) (h' : Arg w B' A' n' c' q) :
    Calls Tryz.prog 98 #[.slice A n c, .slice A' n' c'] w fun e w' => e = .returned (.int .i64 (lexV p q)) ∧ w = w' := by
  obtain ⟨b, hb⟩ : ∃ b, lexV p q = b := ⟨_, rfl⟩
  have hl := h.len
  have hl' := h'.len
  have hn := h.le
  have hn' := h'.le
  have hr := h.reads
  have hr' := h'.reads
  clear h h'
  rw [hb]
  have HB := hide hb
  have HL := hide hl
  have HL' := hide hl'
  clear hb hl hl'
  go_enter Tryz.func98, Tryz.ntmps98
  go_wp2
  go_loop [5, 6, 7, 8, 11] (fun _ _ _ _ i => ∃ k : Nat, k ≤ n ∧ k ≤ n' ∧ i = .int .i64 k ∧ Hid (p.take k = q.take k)) (fun _ _ _ _ i => n - (intOf i).toNat)
  case atStart => exact ⟨0, Nat.zero_le _, Nat.zero_le _, rfl, by exact (rfl : p.take 0 = q.take 0)⟩
  case round =>
    obtain ⟨k, hk, hk', rfl, hs⟩ := hrel
    by_cases hlt : k < n
    · obtain ⟨ad, u, rfl, _, hu, hc⟩ := hr.at_ hlt
      obtain ⟨x, hx, rfl⟩ := i64_at hu
      by_cases hlt' : k < n'
      · obtain ⟨ad', u', rfl, _, hu', hc'⟩ := hr'.at_ hlt'
        obtain ⟨y, hy, rfl⟩ := i64_at hu'
        clear hu hu' hr hr'
        by_cases hxy : x = y
        · subst hxy
          have hnext := hide (take_same_step (unhide hs) hx hy)
          clear hx hy hs
          go_wp2_with ((with_reducible refine (cmp_eq _ _).mono ?_); rintro e w' ⟨rfl, rfl⟩)
          go_round
          case rel => exact ⟨k + 1, by omega, by omega, by go_num, hnext⟩
          case measure => simp [intOf]; omega
        · have hat := (unhide HB).symm.trans (lexV_at (unhide hs) hx hy hxy)
          by_cases hl : x < y
          · obtain rfl : b = -1 := by rw [hat]; simp [hl]
            clear hx hy hs HB hxy hat
            go_wp2_with ((with_reducible refine (cmp_lt _ _ hl _).mono ?_); rintro e w' ⟨rfl, rfl⟩)
            go_ret
            exact ⟨rfl, rfl⟩
          · have hg : y < x := by omega
            obtain rfl : b = 1 := by rw [hat]; simp [hl]
            clear hx hy hs HB hxy hat hl
            go_wp2_with ((with_reducible refine (cmp_gt _ _ hg _).mono ?_); rintro e w' ⟨rfl, rfl⟩)
            go_ret
            exact ⟨rfl, rfl⟩
      · obtain rfl : n' = k := by omega
        have hat := (unhide HB).symm.trans (lexV_end (unhide hs) (.inr (unhide HL').symm) (by rw [unhide HL]; omega) (by rw [unhide HL']; omega))
        rw [unhide HL, unhide HL', if_neg (by omega), if_pos hlt] at hat
        subst hat
        clear hu hx hs HB hr hr'
        go_wp2
        go_ret
        exact ⟨rfl, rfl⟩
    · obtain rfl : n = k := by omega
      have hat := (unhide HB).symm.trans (lexV_end (unhide hs) (.inl (unhide HL).symm) (by rw [unhide HL]; omega) (by rw [unhide HL']; omega))
      rw [unhide HL, unhide HL'] at hat
      clear HB hs hr hr'
      by_cases hlt' : n < n'
      · rw [if_pos hlt'] at hat
        subst hat
        go_wp2
        go_ret
        exact ⟨rfl, rfl⟩
      · rw [if_neg hlt', if_neg (by omega)] at hat
        subst hat
        go_wp2
        go_ret
        exact ⟨rfl, rfl⟩
def or2 (x y : Int) : Int := if x = 0 then y else x
theorem two_at {x y z : Int} {k : Nat} (h : [x, y][k]? = some z) : (k = 0 ∧ z = x) ∨ (k = 1 ∧ z = y) := by
  match k, h with
  | 0, h => simp at h; exact .inl ⟨rfl, h.symm⟩
  | 1, h => simp at h; exact .inr ⟨rfl, h.symm⟩
  | k + 2, h => simp at h
theorem cmpor_any (A : Option Addr) (c B : Nat) (x y : Int) (w : World) (hr : Reads w B A 2 (i64s [x, y])) :
    Calls Tryz.prog 96 #[.slice A 2 c] w fun e w' => e = .returned (.int .i64 (or2 x y)) ∧ w = w' := by
  obtain ⟨r, hrr⟩ : ∃ r, or2 x y = r := ⟨_, rfl⟩
  rw [hrr]
  have HR := hide hrr
  clear hrr
  go_enter Tryz.func96, Tryz.ntmps96
  go_wp2
  go_loop [5, 8] (fun _ i => ∃ k : Nat, k ≤ 2 ∧ i = .int .i64 k ∧ Hid (∀ j z, j < k → [x, y][j]? = some z → z = 0)) (fun _ i => 2 - (intOf i).toNat)
  case atStart => exact ⟨0, Nat.zero_le _, rfl, fun j z h => by omega⟩
  case round =>
    obtain ⟨k, hk, rfl, hz⟩ := hrel
    by_cases hlt : k < 2
    · obtain ⟨ad, u, rfl, _, hu, hc⟩ := hr.at_ hlt
      obtain ⟨v, hv, rfl⟩ := i64_at hu
      clear hu hr
      by_cases h0 : v = 0
      · subst h0
        have hn : Hid (∀ j z, j < k + 1 → [x, y][j]? = some z → z = 0) := fun j z hj h => by
          by_cases e : j = k
          · subst e
            rw [hv] at h
            exact (Option.some.inj h).symm
          · exact unhide hz j z (by omega) h
        clear hv hz
        go_wp2
        go_round
        case rel => exact ⟨k + 1, by omega, by go_num, hn⟩
        case measure => simp [intOf]; omega
      · obtain rfl : r = v := by
          rw [← unhide HR]
          unfold or2
          rcases two_at hv with ⟨rfl, rfl⟩ | ⟨rfl, rfl⟩
          · rw [if_neg h0]
          · rw [if_pos (unhide hz 0 x (by omega) rfl)]
        have hx' : (r != 0) = true := by simp [h0]
        clear h0 hv hz HR
        go_wp2
        go_ret
        exact ⟨rfl, rfl⟩
    · obtain rfl : k = 2 := by omega
      obtain rfl : r = 0 := by
        rw [← unhide HR]
        unfold or2
        rw [if_pos (unhide hz 0 x (by omega) rfl), unhide hz 1 y (by omega) rfl]
      clear hz HR hr
      go_wp2
      go_ret
      exact ⟨rfl, rfl⟩
theorem comparePerms_any (A A' : Option Addr) (n c B n' c' B' : Nat) (p q : List Int) (w : World) (h : Arg w B A n c p) (h' : Arg w B' A' n' c' q) :
    Calls Tryz.prog 77 #[.slice A n c, .slice A' n' c'] w fun e w' => e = .returned (.int .i64 (cmpV p q)) ∧ ∃ k os, w' = Sort.grow (w.drewN k) os := by
  have hv : or2 (cmpI n n') (lexV p q) = cmpV p q := by
    unfold or2 cmpV
    rw [h.len, h'.len]
  rw [← hv]
  have H1 := hide (cmp_any n n' w)
  have H2 := hide (compare_any A A' n c B n' c' B' p q w h h')
  clear hv h h'
  go_enter Tryz.func77, Tryz.ntmps77
  go_wp2_with fail
  refine (unhide H1).mono ?_
  rintro e w1 ⟨rfl, rfl⟩
  clear H1
  go_wp2_with fail
  refine (unhide H2).mono ?_
  rintro e w1 ⟨rfl, rfl⟩
  clear H2
  go_wp2_with fail
  have hR : Reads (w.alloc (.cells (i64s [cmpI n n', lexV p q]).toArray 3)) (w.heap.size + 1) (some ⟨w.heap.size, 0, none⟩) 2 (i64s [cmpI n n', lexV p q]) := ⟨rfl, fun _ => ⟨_, rfl, by simp, fun j u hu => by
    rw [show (⟨w.heap.size, 0, none⟩ : Addr).add j = ⟨w.heap.size, j, none⟩ by unfold Addr.add; split <;> simp_all, World.cell?_alloc_new]
    simpa using hu⟩⟩
  refine (cmpor_any _ 2 (w.heap.size + 1) _ _ _ hR).mono ?_
  rintro e w1 ⟨rfl, rfl⟩
  clear hR
  go_wp2
  go_ret
  exact ⟨rfl, 0, _, Sort.alloc_eq_grow _ _⟩
end Go.Proofs.YtinnlhfdgbeibaaGreat


/-
  spec.l3Put, by its contract.
-/

namespace Go.Proofs.YtinnlhfdgbeibaaGreat
set_option maxRecDepth 100000
open Go.RowKit

theorem Inner.put {w : World} {B s : Nat} {vs : List Value} {zss : List (List Int)} {u : Value} {z : List Int} (h : Inner w B vs zss) (hs : s ≤ zss.length) (hu : Ints w B u z) (ha : ∀ x ∈ vs, Away x u) : Inner w B (vs.take s ++ [u] ++ vs.drop s) (zss.take s ++ [z] ++ zss.drop s) := by
  have hl := h.len
  refine ⟨by simp; omega, fun i x ys hx hy => ?_, ?_⟩
  · by_cases h1 : i < s
    · rw [List.append_assoc, List.getElem?_append_left (by rw [List.length_take]; omega), List.getElem?_take_of_lt h1] at hx hy
      exact h.row i x ys hx hy
    · by_cases h2 : i = s
      · subst h2
        rw [List.append_assoc, List.getElem?_append_right (by rw [List.length_take]; omega), List.length_take, Nat.min_eq_left (by omega)] at hx hy
        simp at hx hy
        subst hx; subst hy
        exact hu
      · rw [List.getElem?_append_right (by simp; omega)] at hx hy
        simp only [List.length_append, List.length_take, List.length_singleton] at hx hy
        rw [List.getElem?_drop] at hx hy
        rw [Nat.min_eq_left (by omega)] at hx hy
        exact h.row _ x ys hx hy
  · have ht := h.away
    rw [← List.take_append_drop s vs, List.pairwise_append] at ht
    obtain ⟨h1, h2, h3⟩ := ht
    rw [List.append_assoc, List.pairwise_append]
    refine ⟨h1, ?_, fun a ha' b hb => ?_⟩
    · rw [List.singleton_append, List.pairwise_cons]
      exact ⟨fun b hb => (ha b (List.mem_of_mem_drop hb)).symm, h2⟩
    · rw [List.singleton_append, List.mem_cons] at hb
      rcases hb with rfl | hb
      · exact ha a (List.mem_of_mem_take ha')
      · exact h3 a ha' b hb
theorem own_news {w : World} {B n : Nat} {v : Value} {vs : List Value} {zss : List (List Int)} (_h : w.ownsRow B 24 1 v n vs) (hin : Inner w B vs zss) : ∀ u ∈ vs, u.oneCell' = true := fun u hu => by
  obtain ⟨zs, hz⟩ := hin.mem hu
  obtain ⟨A, c, rfl⟩ := hz.slice
  rfl

/-- A list of rows that lies at a block's head. -/
def PutS (w : World) (B : Nat) (v : Value) (zss : List (List Int)) : Prop := IntsS w B v zss ∧ ∃ g cap, v = .slice (some ⟨g, 0, none⟩) zss.length cap
def PutEnds (w : World) (B : Nat) (zss : List (List Int)) (e : Ending) (w' : World) : Prop := ∃ v', e = .returned v' ∧ PutS w' B v' zss ∧ Below B w w' ∧ KeepI w w'

theorem Arg.drew {w : World} {B n c : Nat} {A : Option Addr} {zs : List Int} (h : Arg w B A n c zs) : Arg w.drew B A n c zs := ⟨h.reads.drew, h.under, h.le, h.cap, h.small, h.nil⟩
theorem own_shape {w : World} {B n : Nat} {e : TypeId} {v : Value} {xs : List Value} (h : w.ownsRow B e 1 v n xs) (hv : v ≠ .slice none 0 0) : ∃ g cap, v = .slice (some ⟨g, 0, none⟩) n cap ∧ B ≤ g ∧ n ≤ cap := by
  rcases h.2 with ⟨h0, _⟩ | ⟨g, cap, cur, h1, h2, _, h3, _⟩
  · exact absurd h0 hv
  · exact ⟨g, cap, h1, h2, h3⟩

set_option maxHeartbeats 1600000 in
theorem l3putS_any (B : Nat) (zss : List (List Int)) (g n cap : Nat) (A : Option Addr) (m c B' : Nat) (p : List Int) (w : World) (hS : IntsS w B (.slice (some ⟨g, 0, none⟩) n cap) zss) (hp : Arg w B' A m c p) (hB : B ≤ w.heap.size)
    (hall : ∀ z ∈ zss, z.length ≤ 1048576 ∧ Small z) (hn : n ≤ 1048576) :
    Calls Tryz.prog 79 #[.slice (some ⟨g, 0, none⟩) n cap, .slice A m c] w (PutEnds w B (putL zss p)) := by
  have hl := hS.len
  have HL := hide hl
  have HALL := hide hall
  clear hl hall
  go_enter Tryz.func79, Tryz.ntmps79
  go_wp2
  go_loopw [5] (fun i wr => ∃ k : Nat, k ≤ n ∧ i = .int .i64 k ∧ Drew w wr ∧ Hid (scanL zss p n = scanL zss p k)) (fun i _ => (intOf i).toNat)
  case atStart => exact ⟨n, Nat.le_refl _, rfl, Drew.refl _, by exact rfl⟩
  case round =>
    obtain ⟨k, hk, rfl, hd, hsc⟩ := hrel
    cases k with
    | zero =>
      have hput : Hid (putL zss p = zss.take 0 ++ [p] ++ zss.drop 0) := by
        have h := unhide hsc
        rw [← unhide HL] at h
        show putL zss p = _
        unfold putL
        rw [h, scanL, if_neg (by omega)]
      have hbW := hd.below w.heap.size
      have hkw := hd.keepI
      have hp := hp.below hbW
      have hS := hS.below hbW
      have hks : 0 ≤ n := Nat.zero_le n
      clear hsc
      obtain ⟨vs, hown, hin⟩ := hS
      rw [unhide HL] at hown
      have hgl := (hown.lt g rfl).2
      have hst := ownS0 wr wr.heap.size (Nat.le_refl _)
      have hbel := (Below.refl wr.heap.size wr).alloc (Nat.le_refl _) (.cells #[] 24)
      have hrest := ((own_rest hown hks).below hbel)
      have hones : ∀ u ∈ vs.drop (0), u.oneCell' = true := fun u hu => own_news hown hin u (List.mem_of_mem_drop hu)
      have HONES := hide hones
      go_wp2_with (at_builtin; refine wpList_append_rows rfl (.tmp 34) (.tmp 37) rfl wr.heap.size wr.heap.size 0 (n) (cap) wr _ (some ⟨g, 0, none⟩) [] (vs.drop (0)) rfl rfl hst hrest (fun h => by cases h) hones (by omega) (by omega) hbel hbel.size ?_; intro v6 w6 hown6 hb6 hg6 hnil6)
      rw [Nat.zero_add, List.nil_append] at hown6
      obtain ⟨g6, cap6, rfl, hg6l, hcap6⟩ := own_shape hown6 (fun h => by cases hnil6 h)
      have hA6 := hp.below hb6
      have hst6 := own0 w6 w6.heap.size (Nat.le_refl _)
      have hbel6 := (Below.refl w6.heap.size w6).alloc (Nat.le_refl _) (.cells #[] 3)
      have hA7 := (hA6.below hbel6).drew
      have hs6 := hbel6.size
      have hown7 := own_below hown hb6
      have hin7 := hin.keepI (KeepI.of_below hb6)
      have hkw6 := hkw.trans (KeepI.of_below hb6)
      have hbw6 := (hbW.mono hB).trans (hb6.mono (Nat.le_trans hB hbW.size))
      clear hst hbel hrest hones hp hkw hin hown hg6 hnil6
      go_region_held3 (fun _ => True) (trivial)
        (first
         | ((refine step_append_arg (by rfl) (.tmp 42) (.tmp 43) (by rfl) w6.heap.size B' 0 m c w6 _ A [] p (by rfl) (by rfl) hst6 hA7 (by omega) hbel6.drew hs6 ?_); intro v7 w7 hw7 hb7 hg7; clear hg7;
            have hI7 : Ints w7 w6.heap.size v7 p := Ints.of_own hw7;
            obtain ⟨A7, c7, rfl⟩ := hI7.slice;
            have hone7 : ∀ u ∈ [Value.slice A7 p.length c7], u.oneCell' = true := (fun u hu => by (rw [List.mem_singleton] at hu; subst hu; rfl));
            have haw7 := hin7.away_new hI7.since (Nat.le_refl _);
            have hin8 := hin7.keepI (KeepI.of_below hb7);
            have hown8 := own_cut (own_below hown7 hb7) hks;
            have hrest8 := own_below hown6 hb7;
            have hkw8 := hkw6.trans (KeepI.of_below hb7);
            have hbw8 := hbw6.trans (hb7.mono (Nat.le_trans hB (Nat.le_trans hbW.size hb6.size)));
            have hsz8 : B ≤ w7.heap.size := Nat.le_trans hB (Nat.le_trans hbW.size (Nat.le_trans hb6.size hb7.size));
            have hx8 := reads_new w7 (.slice A7 p.length c7) 24;
            have hal := (Below.refl w7.heap.size w7).alloc (Nat.le_refl _) (.cells #[.slice A7 p.length c7] 24);
            clear hst6 hbel6 hA7 hs6 hown7 hown6 hin7 hkw6 hbw6 hw7 hb7)
         | ((refine step_append_rows (by rfl) (.tmp 41) (.tmp 45) (by rfl) B (w7.heap.size + 1) (0) 1 1 w _ (some ⟨w7.heap.size, 0, none⟩) (vs.take (0)) [.slice A7 p.length c7] (by rfl) (by rfl) (own_below hown8 hal) hx8 (fun h => by cases h) hone7 (by omega) (by omega) (hbw8.trans (hal.mono hsz8)) (Nat.le_trans hsz8 hal.size) ?_); intro v9 w9 hown9 hb9 hg9 hnil9;
            have hk9 := (hkw8.trans (KeepI.of_below hal)).trans (KeepI.of_grown (own_below hown8 hal) hg9);
            have hin9 := (hin8.keepI (KeepI.of_below hal)).keepI (KeepI.of_grown (own_below hown8 hal) hg9);
            have hI9 := (hI7.keepI (KeepI.of_below hal)).keepI (KeepI.of_grown (own_below hown8 hal) hg9);
            have hrest9 := (own_below hrest8 hal).kept hg9 (.inr (fun e => by (have e2 : g6 = g := by simpa [Value.ownBlock] using e); omega));
            have hsz9 := Nat.le_trans hsz8 (Nat.le_trans hal.size hg9.size);
            clear hown8 hrest8 hkw8 hbw8 hsz8 hx8 hal hin8 hI7 hone7 hg9)
         | ((refine step_append_rows (by rfl) (.tmp 46) (.tmp 47) (by rfl) B w9.heap.size (0 + 1) (n) cap6 w _ (some ⟨g6, 0, none⟩) (vs.take (0) ++ [.slice A7 p.length c7]) (vs.drop (0)) (by rfl) (by rfl) hown9 (Reads.of_own_at hrest9) (fun h => by cases h) (unhide HONES) (by omega) (by omega) hb9 hsz9 ?_); intro v10 w10 hown10 hb10 hg10 hnil10;
            have hk10 := hk9.trans (KeepI.of_grown hown9 hg10);
            have hin10 := hin9.keepI (KeepI.of_grown hown9 hg10);
            have hI10 := hI9.keepI (KeepI.of_grown hown9 hg10);
            clear hk9 hin9 hI9 hown9 hrest9))
      have hfin : PutS w10 B v10 (putL zss p) := by
        have hz := unhide HL
        have hin := hin10.put (s := 0) (by rw [hz]; exact hks) (hI10.low (Nat.le_trans hB (Nat.le_trans hbW.size hb6.size))) haw7
        have hlen : (zss.take (0) ++ [p] ++ zss.drop (0)).length = 0 + 1 + (n) := by
          simp only [List.length_append, List.length_take, List.length_drop, List.length_singleton]
          omega
        rw [unhide hput]
        obtain ⟨g10, cap10, h10, _, _⟩ := own_shape hown10 (fun h => by cases hnil9 (hnil10 h))
        exact ⟨⟨_, by rw [hlen]; exact hown10, hin⟩, g10, cap10, by rw [hlen]; exact h10⟩
      clear hown10 hin10 hI10 hnil9 hnil10 haw7
      go_wp2
      go_ret
      exact ⟨v10, rfl, hfin, hb10, hk10⟩
    | succ k =>
      obtain ⟨ad, A1, c1, z, he, hz, hcell, hI⟩ := (hS.below (hd.below _)).at_ (show k < n by omega)
      injection he with he
      subst he
      have hcell : wr.cell? ⟨g, k, none⟩ = some (.slice A1 z.length c1) := by
        rwa [show (⟨g, 0, none⟩ : Addr).add k = ⟨g, k, none⟩ by unfold Addr.add; split <;> simp_all] at hcell
      have hzP := unhide HALL z (List.mem_of_getElem? hz)
      have hAz := hI.arg hzP.1 hI.cap hzP.2
      obtain ⟨b, hb⟩ : ∃ b, befL p z = b := ⟨_, rfl⟩
      have hpW := hp.below (hd.below _)
      have H1 := hide (l2bef_any A A1 m c B' z.length c1 wr.heap.size p z b hb wr hpW hAz)
      have hki : ((k + 1 : Nat) : Int) - 1 = (k : Int) := by omega
      cases b with
      | true =>
        have hnext := hide ((unhide hsc).trans (scanL_yes hz hb))
        clear hz hb hI hAz hsc hpW hS hp
        go_wp2_with fail
        refine (unhide H1).mono ?_
        rintro e w1 ⟨rfl, hd1⟩
        have hd2 := hd.trans hd1
        clear H1 hd hd1
        go_wp2
        go_roundw
        case rel => exact ⟨k, by omega, by go_num, hd2, hnext⟩
        case measure => simp [intOf]
      | false =>
        have hsc1 := (unhide hsc).trans (scanL_no hz hb)
        rw [← unhide HL] at hsc1
        obtain ⟨b2, hb2⟩ : ∃ b, decide (z = p) = b := ⟨_, rfl⟩
        have H2 := hide (fun w' (hb' : Below wr.heap.size wr w') => l2same_any A1 A z.length c1 wr.heap.size m c B' z p b2 hb2 w' ((hI.below hb').arg hzP.1 (hI.below hb').cap hzP.2 |>.more (Nat.le_refl _) (Nat.le_refl _) |> fun h => ⟨hI.reads.below hb', hb'.size, h.le, h.cap, h.small, h.nil⟩) (hpW.below hb'))
        have hput : Hid (putL zss p = if b2 = true then zss else zss.take (k + 1) ++ [p] ++ zss.drop (k + 1)) := by
          show putL zss p = _
          unfold putL
          rw [hsc1, show k + 1 - 1 = k by omega, getD_of hz]
          cases b2 with
          | true => rw [if_pos ⟨by omega, of_decide_eq_true hb2⟩, if_pos rfl]
          | false => rw [if_neg (fun h => of_decide_eq_false hb2 h.2), if_neg (by simp)]
        clear hz hb hI hAz hsc hsc1 hb2 hpW
        go_wp2_with fail
        refine (unhide H1).mono ?_
        rintro e w1 ⟨rfl, hd1⟩
        have H3 := hide (unhide H2 w1 (hd1.below _))
        have hcell1 := (hd1.cell ⟨g, k, none⟩).trans hcell
        replace hd := hd.trans hd1
        clear H1 H2 hd1 hcell
        go_wp2_with fail
        refine (unhide H3).mono ?_
        rintro e w2 ⟨rfl, hd2⟩
        replace hd := hd.trans hd2
        have hbW := hd.below w.heap.size
        have hkw := hd.keepI
        replace hp := hp.below hbW
        replace hS := hS.below hbW
        clear H3 hd2 hcell1
        cases b2 with
        | true =>
          replace hput := hide ((unhide hput).trans (if_pos rfl))
          go_wp2
          go_ret
          rw [← unhide hput] at hS
          exact ⟨.slice (some ⟨g, 0, none⟩) n cap, rfl, ⟨hS, g, cap, by rw [hS.len]⟩, hbW.mono hB, hkw⟩
        | false =>
          replace hput := hide ((unhide hput).trans (if_neg (by simp)))
          have hcn : n ≤ cap := by
            obtain ⟨vs, hown, _⟩ := hS
            rw [unhide HL] at hown
            rcases hown.2 with ⟨hv, _⟩ | ⟨g', cap', cur, hv, _, _, h3, _⟩
            · cases hv
            · injection hv with _ _ h4; omega
          by_cases hcap : cap = k + 1
          · subst hcap
            obtain rfl : n = k + 1 := by omega
            have hbd0 : (0 : Int) ≤ (k : Int) + 1 := by omega
            have hbd1 : (k : Int) + 1 ≤ ((k + 1 : Nat) : Int) := by omega
            have hks : k + 1 ≤ k + 1 := Nat.le_refl _
            obtain ⟨vs, hown, hin⟩ := hS
            rw [unhide HL] at hown
            have hgl := (hown.lt g rfl).2
            have hst := ownS0 w2 w2.heap.size (Nat.le_refl _)
            have hbel := (Below.refl w2.heap.size w2).alloc (Nat.le_refl _) (.cells #[] 24)
            have hrest : Reads (w2.alloc (.cells #[] 24)) w2.heap.size (some ⟨g, 0, none⟩) 0 (vs.drop (k + 1)) := ⟨by rw [List.length_drop]; have := hown.1; omega, fun h => by omega⟩
            have hones : ∀ u ∈ vs.drop (k + 1), u.oneCell' = true := fun u hu => own_news hown hin u (List.mem_of_mem_drop hu)
            have HONES := hide hones
            go_wp2_with (at_builtin; refine wpList_append_rows rfl (.tmp 34) (.tmp 37) rfl w2.heap.size w2.heap.size 0 (0) (0) w2 _ (some ⟨g, 0, none⟩) [] (vs.drop (k + 1)) rfl rfl hst hrest (fun h => by cases h) hones (by omega) (by omega) hbel hbel.size ?_; intro v6 w6 hown6 hb6 hg6 hnil6)
            rw [Nat.zero_add, List.nil_append] at hown6
            obtain ⟨g6, cap6, rfl, hg6l, hcap6⟩ := own_shape hown6 (fun h => by cases hnil6 h)
            have hA6 := hp.below hb6
            have hst6 := own0 w6 w6.heap.size (Nat.le_refl _)
            have hbel6 := (Below.refl w6.heap.size w6).alloc (Nat.le_refl _) (.cells #[] 3)
            have hA7 := (hA6.below hbel6).drew
            have hs6 := hbel6.size
            have hown7 := own_below hown hb6
            have hin7 := hin.keepI (KeepI.of_below hb6)
            have hkw6 := hkw.trans (KeepI.of_below hb6)
            have hbw6 := (hbW.mono hB).trans (hb6.mono (Nat.le_trans hB hbW.size))
            clear hst hbel hrest hones hp hkw hin hown hg6 hnil6
            go_region_held3 (fun _ => True) (trivial)
              (first
               | ((refine step_append_arg (by rfl) (.tmp 42) (.tmp 43) (by rfl) w6.heap.size B' 0 m c w6 _ A [] p (by rfl) (by rfl) hst6 hA7 (by omega) hbel6.drew hs6 ?_); intro v7 w7 hw7 hb7 hg7; clear hg7;
                  have hI7 : Ints w7 w6.heap.size v7 p := Ints.of_own hw7;
                  obtain ⟨A7, c7, rfl⟩ := hI7.slice;
                  have hone7 : ∀ u ∈ [Value.slice A7 p.length c7], u.oneCell' = true := (fun u hu => by (rw [List.mem_singleton] at hu; subst hu; rfl));
                  have haw7 := hin7.away_new hI7.since (Nat.le_refl _);
                  have hin8 := hin7.keepI (KeepI.of_below hb7);
                  have hown8 := own_cut (own_below hown7 hb7) hks;
                  have hrest8 := own_below hown6 hb7;
                  have hkw8 := hkw6.trans (KeepI.of_below hb7);
                  have hbw8 := hbw6.trans (hb7.mono (Nat.le_trans hB (Nat.le_trans hbW.size hb6.size)));
                  have hsz8 : B ≤ w7.heap.size := Nat.le_trans hB (Nat.le_trans hbW.size (Nat.le_trans hb6.size hb7.size));
                  have hx8 := reads_new w7 (.slice A7 p.length c7) 24;
                  have hal := (Below.refl w7.heap.size w7).alloc (Nat.le_refl _) (.cells #[.slice A7 p.length c7] 24);
                  clear hst6 hbel6 hA7 hs6 hown7 hown6 hin7 hkw6 hbw6 hw7 hb7)
               | ((refine step_append_rows (by rfl) (.tmp 41) (.tmp 45) (by rfl) B (w7.heap.size + 1) (k + 1) 1 1 w _ (some ⟨w7.heap.size, 0, none⟩) (vs.take (k + 1)) [.slice A7 p.length c7] (by rfl) (by rfl) (own_below hown8 hal) hx8 (fun h => by cases h) hone7 (by omega) (by omega) (hbw8.trans (hal.mono hsz8)) (Nat.le_trans hsz8 hal.size) ?_); intro v9 w9 hown9 hb9 hg9 hnil9;
                  have hk9 := (hkw8.trans (KeepI.of_below hal)).trans (KeepI.of_grown (own_below hown8 hal) hg9);
                  have hin9 := (hin8.keepI (KeepI.of_below hal)).keepI (KeepI.of_grown (own_below hown8 hal) hg9);
                  have hI9 := (hI7.keepI (KeepI.of_below hal)).keepI (KeepI.of_grown (own_below hown8 hal) hg9);
                  have hrest9 := (own_below hrest8 hal).kept hg9 (.inr (fun e => by (have e2 : g6 = g := by simpa [Value.ownBlock] using e); omega));
                  have hsz9 := Nat.le_trans hsz8 (Nat.le_trans hal.size hg9.size);
                  clear hown8 hrest8 hkw8 hbw8 hsz8 hx8 hal hin8 hI7 hone7 hg9)
               | ((refine step_append_rows (by rfl) (.tmp 46) (.tmp 47) (by rfl) B w9.heap.size (k + 1 + 1) (0) cap6 w _ (some ⟨g6, 0, none⟩) (vs.take (k + 1) ++ [.slice A7 p.length c7]) (vs.drop (k + 1)) (by rfl) (by rfl) hown9 (Reads.of_own_at hrest9) (fun h => by cases h) (unhide HONES) (by omega) (by omega) hb9 hsz9 ?_); intro v10 w10 hown10 hb10 hg10 hnil10;
                  have hk10 := hk9.trans (KeepI.of_grown hown9 hg10);
                  have hin10 := hin9.keepI (KeepI.of_grown hown9 hg10);
                  have hI10 := hI9.keepI (KeepI.of_grown hown9 hg10);
                  clear hk9 hin9 hI9 hown9 hrest9))
            have hfin : PutS w10 B v10 (putL zss p) := by
              have hz := unhide HL
              have hin := hin10.put (s := k + 1) (by rw [hz]; exact hks) (hI10.low (Nat.le_trans hB (Nat.le_trans hbW.size hb6.size))) haw7
              have hlen : (zss.take (k + 1) ++ [p] ++ zss.drop (k + 1)).length = k + 1 + 1 + (0) := by
                simp only [List.length_append, List.length_take, List.length_drop, List.length_singleton]
                omega
              rw [unhide hput]
              obtain ⟨g10, cap10, h10, _, _⟩ := own_shape hown10 (fun h => by cases hnil9 (hnil10 h))
              exact ⟨⟨_, by rw [hlen]; exact hown10, hin⟩, g10, cap10, by rw [hlen]; exact h10⟩
            clear hown10 hin10 hI10 hnil9 hnil10 haw7
            go_wp2
            go_ret
            exact ⟨v10, rfl, hfin, hb10, hk10⟩
          · have hbd0 : (0 : Int) ≤ (k : Int) + 1 := by omega
            have hbd1 : (k : Int) + 1 ≤ (cap : Int) := by omega
            have hks : k + 1 ≤ n := hk
            clear hcn
            obtain ⟨vs, hown, hin⟩ := hS
            rw [unhide HL] at hown
            have hgl := (hown.lt g rfl).2
            have hst := ownS0 w2 w2.heap.size (Nat.le_refl _)
            have hbel := (Below.refl w2.heap.size w2).alloc (Nat.le_refl _) (.cells #[] 24)
            have hrest := ((own_rest hown hks).below hbel)
            have hones : ∀ u ∈ vs.drop (k + 1), u.oneCell' = true := fun u hu => own_news hown hin u (List.mem_of_mem_drop hu)
            have HONES := hide hones
            go_wp2_with (at_builtin; refine wpList_append_rows rfl (.tmp 34) (.tmp 37) rfl w2.heap.size w2.heap.size 0 (n - (k + 1)) (cap - (k + 1)) w2 _ (some ⟨g, k + 1, none⟩) [] (vs.drop (k + 1)) rfl rfl hst hrest (fun h => by cases h) hones (by omega) (by omega) hbel hbel.size ?_; intro v6 w6 hown6 hb6 hg6 hnil6)
            rw [Nat.zero_add, List.nil_append] at hown6
            obtain ⟨g6, cap6, rfl, hg6l, hcap6⟩ := own_shape hown6 (fun h => by cases hnil6 h)
            have hA6 := hp.below hb6
            have hst6 := own0 w6 w6.heap.size (Nat.le_refl _)
            have hbel6 := (Below.refl w6.heap.size w6).alloc (Nat.le_refl _) (.cells #[] 3)
            have hA7 := (hA6.below hbel6).drew
            have hs6 := hbel6.size
            have hown7 := own_below hown hb6
            have hin7 := hin.keepI (KeepI.of_below hb6)
            have hkw6 := hkw.trans (KeepI.of_below hb6)
            have hbw6 := (hbW.mono hB).trans (hb6.mono (Nat.le_trans hB hbW.size))
            clear hst hbel hrest hones hp hkw hin hown hg6 hnil6
            go_region_held3 (fun _ => True) (trivial)
              (first
               | ((refine step_append_arg (by rfl) (.tmp 42) (.tmp 43) (by rfl) w6.heap.size B' 0 m c w6 _ A [] p (by rfl) (by rfl) hst6 hA7 (by omega) hbel6.drew hs6 ?_); intro v7 w7 hw7 hb7 hg7; clear hg7;
                  have hI7 : Ints w7 w6.heap.size v7 p := Ints.of_own hw7;
                  obtain ⟨A7, c7, rfl⟩ := hI7.slice;
                  have hone7 : ∀ u ∈ [Value.slice A7 p.length c7], u.oneCell' = true := (fun u hu => by (rw [List.mem_singleton] at hu; subst hu; rfl));
                  have haw7 := hin7.away_new hI7.since (Nat.le_refl _);
                  have hin8 := hin7.keepI (KeepI.of_below hb7);
                  have hown8 := own_cut (own_below hown7 hb7) hks;
                  have hrest8 := own_below hown6 hb7;
                  have hkw8 := hkw6.trans (KeepI.of_below hb7);
                  have hbw8 := hbw6.trans (hb7.mono (Nat.le_trans hB (Nat.le_trans hbW.size hb6.size)));
                  have hsz8 : B ≤ w7.heap.size := Nat.le_trans hB (Nat.le_trans hbW.size (Nat.le_trans hb6.size hb7.size));
                  have hx8 := reads_new w7 (.slice A7 p.length c7) 24;
                  have hal := (Below.refl w7.heap.size w7).alloc (Nat.le_refl _) (.cells #[.slice A7 p.length c7] 24);
                  clear hst6 hbel6 hA7 hs6 hown7 hown6 hin7 hkw6 hbw6 hw7 hb7)
               | ((refine step_append_rows (by rfl) (.tmp 41) (.tmp 45) (by rfl) B (w7.heap.size + 1) (k + 1) 1 1 w _ (some ⟨w7.heap.size, 0, none⟩) (vs.take (k + 1)) [.slice A7 p.length c7] (by rfl) (by rfl) (own_below hown8 hal) hx8 (fun h => by cases h) hone7 (by omega) (by omega) (hbw8.trans (hal.mono hsz8)) (Nat.le_trans hsz8 hal.size) ?_); intro v9 w9 hown9 hb9 hg9 hnil9;
                  have hk9 := (hkw8.trans (KeepI.of_below hal)).trans (KeepI.of_grown (own_below hown8 hal) hg9);
                  have hin9 := (hin8.keepI (KeepI.of_below hal)).keepI (KeepI.of_grown (own_below hown8 hal) hg9);
                  have hI9 := (hI7.keepI (KeepI.of_below hal)).keepI (KeepI.of_grown (own_below hown8 hal) hg9);
                  have hrest9 := (own_below hrest8 hal).kept hg9 (.inr (fun e => by (have e2 : g6 = g := by simpa [Value.ownBlock] using e); omega));
                  have hsz9 := Nat.le_trans hsz8 (Nat.le_trans hal.size hg9.size);
                  clear hown8 hrest8 hkw8 hbw8 hsz8 hx8 hal hin8 hI7 hone7 hg9)
               | ((refine step_append_rows (by rfl) (.tmp 46) (.tmp 47) (by rfl) B w9.heap.size (k + 1 + 1) (n - (k + 1)) cap6 w _ (some ⟨g6, 0, none⟩) (vs.take (k + 1) ++ [.slice A7 p.length c7]) (vs.drop (k + 1)) (by rfl) (by rfl) hown9 (Reads.of_own_at hrest9) (fun h => by cases h) (unhide HONES) (by omega) (by omega) hb9 hsz9 ?_); intro v10 w10 hown10 hb10 hg10 hnil10;
                  have hk10 := hk9.trans (KeepI.of_grown hown9 hg10);
                  have hin10 := hin9.keepI (KeepI.of_grown hown9 hg10);
                  have hI10 := hI9.keepI (KeepI.of_grown hown9 hg10);
                  clear hk9 hin9 hI9 hown9 hrest9))
            have hfin : PutS w10 B v10 (putL zss p) := by
              have hz := unhide HL
              have hin := hin10.put (s := k + 1) (by rw [hz]; exact hks) (hI10.low (Nat.le_trans hB (Nat.le_trans hbW.size hb6.size))) haw7
              have hlen : (zss.take (k + 1) ++ [p] ++ zss.drop (k + 1)).length = k + 1 + 1 + (n - (k + 1)) := by
                simp only [List.length_append, List.length_take, List.length_drop, List.length_singleton]
                omega
              rw [unhide hput]
              obtain ⟨g10, cap10, h10, _, _⟩ := own_shape hown10 (fun h => by cases hnil9 (hnil10 h))
              exact ⟨⟨_, by rw [hlen]; exact hown10, hin⟩, g10, cap10, by rw [hlen]; exact h10⟩
            clear hown10 hin10 hI10 hnil9 hnil10 haw7
            go_wp2
            go_ret
            exact ⟨v10, rfl, hfin, hb10, hk10⟩
theorem l3put_any (B : Nat) (zss : List (List Int)) (g n cap : Nat) (A : Option Addr) (m c B' : Nat) (p : List Int) (w : World) (hS : IntsS w B (.slice (some ⟨g, 0, none⟩) n cap) zss) (hp : Arg w B' A m c p) (hB : B ≤ w.heap.size)
    (hall : ∀ z ∈ zss, isP z = true) (hn : n ≤ 1048576) :
    Calls Tryz.prog 79 #[.slice (some ⟨g, 0, none⟩) n cap, .slice A m c] w (PutEnds w B (putL zss p)) :=
  l3putS_any B zss g n cap A m c B' p w hS hp hB (fun z hz => ⟨by have := isP_le (hall z hz); omega, isP_small (hall z hz)⟩) hn
end Go.Proofs.YtinnlhfdgbeibaaGreat


/-
  spec.l7At, spec.l7Fits, spec.l7Find, spec.OccurrencesOf, spec.CountPattern, spec.HasPattern, by their contracts.
-/

namespace Go.Proofs.YtinnlhfdgbeibaaGreat
set_option maxRecDepth 100000
open Go.RowKit

theorem Arg.stay {w w' : World} {B B' n c : Nat} {A : Option Addr} {zs : List Int} (h : Arg w B A n c zs) (hb : Below B' w w') (hB : B ≤ B') : Arg w' B A n c zs :=
  ⟨h.reads.below (hb.mono hB), Nat.le_trans h.under hb.size, h.le, h.cap, h.small, h.nil⟩
theorem Arg.at_ {w : World} {B n c k : Nat} {A : Option Addr} {zs : List Int} (h : Arg w B A n c zs) (hk : k < n) : ∃ ad, A = some ad ∧ ad.block < B ∧ zs[k]? = some (at0 zs k) ∧ w.cell? (ad.add k) = some (.int .i64 (at0 zs k)) := by
  obtain ⟨ad, u, hA, hb, hu, hc⟩ := h.reads.at_ hk
  obtain ⟨z, hz, rfl⟩ := i64_at hu
  have e := at0_of hz
  subst e
  exact ⟨ad, hA, hb, hz, hc⟩
theorem isP_rng {p : List Int} (h : isP p = true) {k : Nat} (hk : k < p.length) : 1 ≤ at0 p k ∧ at0 p k ≤ (p.length : Int) := by
  have := (isP_true.1 h).2.1 _ (at0_mem hk)
  exact this
theorem place_nat {n : Nat} {x : Int} (h : 1 ≤ x ∧ x ≤ (n : Int)) : ∃ X : Nat, x = ((X + 1 : Nat) : Int) ∧ X < n := ⟨x.toNat - 1, by omega, by omega⟩

set_option maxHeartbeats 1600000 in
theorem l7fits_any (A A' A2 : Option Addr) (n c B n' c' B' n2 c2 B2 : Nat) (p q pl : List Int) (b : Bool) (hb : fitL p q pl = b) (w : World) (h : Arg w B A n c p) (h' : Arg w B' A' n' c' q) (h2 : Arg w B2 A2 n2 c2 pl) (hr : PlOK p.length pl) (hlt : 0 < n2) (hle : n2 ≤ n') :
    Calls Tryz.prog 116 #[.slice A n c, .slice A' n' c', .slice A2 n2 c2] w fun e w' => e = .returned (.bool b) ∧ Drew w w' := by
  have hl := h.len
  have hl' := h'.len
  have hl2 := h2.len
  obtain ⟨L, rfl⟩ : ∃ L, n2 = L + 1 := ⟨n2 - 1, by omega⟩
  have hn2 := h2.le
  have hL1 : ((L + 1 : Nat) : Int) - 1 = (L : Int) := by omega
  have HB := hide hb
  have HL := hide hl2
  have HR := hide hr
  clear hb hr
  go_enter Tryz.func116, Tryz.ntmps116
  go_wp2
  go_loopw [8] (fun i wr => ∃ k : Nat, k ≤ L ∧ i = .int .i64 k ∧ Drew w wr ∧ Hid (∀ j, j < k → decide (at0 q j < at0 q L) = decide (at0 (nums p pl) j < at0 (nums p pl) L))) (fun i _ => L - (intOf i).toNat)
  case atStart => exact ⟨0, Nat.zero_le _, rfl, Drew.refl _, fun j hj => by omega⟩
  case round =>
    obtain ⟨k, hk, rfl, hd, hx⟩ := hrel
    by_cases hkl : k < L
    · have hdb := hd.below w.heap.size
      obtain ⟨ad', rfl, _, _, ca⟩ := (h'.below hdb).at_ (show k < n' by omega)
      obtain ⟨_, he, _, _, cb⟩ := (h'.below hdb).at_ (show L < n' by omega)
      obtain rfl := Option.some.inj he
      obtain ⟨ad2, rfl, _, _, cx⟩ := (h2.below hdb).at_ (show k < L + 1 by omega)
      obtain ⟨_, he2, _, _, cy⟩ := (h2.below hdb).at_ (show L < L + 1 by omega)
      obtain rfl := Option.some.inj he2
      obtain ⟨X, hX, hXn⟩ := place_nat ((unhide HR).rng (i := k) (by omega))
      obtain ⟨Y, hY, hYn⟩ := place_nat ((unhide HR).rng (i := L) (by omega))
      obtain ⟨ad, rfl, _, _, cc⟩ := (h.below hdb).at_ (show X < n by omega)
      obtain ⟨_, he3, _, _, cd⟩ := (h.below hdb).at_ (show Y < n by omega)
      obtain rfl := Option.some.inj he3
      have e1 : at0 (nums p pl) k = at0 p X := by rw [nums_at0 (by omega), hX]; simp
      have e2 : at0 (nums p pl) L = at0 p Y := by rw [nums_at0 (by omega), hY]; simp
      rw [hX] at cx
      rw [hY] at cy
      have k1 : ((X + 1 : Nat) : Int) - 1 = (X : Int) := by omega
      have k2 : ((Y + 1 : Nat) : Int) - 1 = (Y : Int) := by omega
      have hnn := h.le
      have w1 : IntKind.i64.wrap (X : Int) = X := by rw [IntKind.wrap_i64]; omega
      have w2 : IntKind.i64.wrap (Y : Int) = Y := by rw [IntKind.wrap_i64]; omega
      have HE := hide (And.intro e1 e2)
      have HD := hide hd
      have HX := hide (And.intro hX hY)
      clear e1 e2 hd hdb hX hY he he2 he3
      obtain ⟨a, ha⟩ : ∃ a, at0 q k = a := ⟨_, rfl⟩
      obtain ⟨b', hb'⟩ : ∃ b', at0 q L = b' := ⟨_, rfl⟩
      obtain ⟨y, hy⟩ : ∃ y, at0 p X = y := ⟨_, rfl⟩
      obtain ⟨z, hz⟩ : ∃ z, at0 p Y = z := ⟨_, rfl⟩
      have HA := hide (And.intro ha (And.intro hb' (And.intro hy hz)))
      rw [ha] at ca
      rw [hb'] at cb
      rw [hy] at cc
      rw [hz] at cd
      clear ha hb' hy hz
      by_cases t1 : a < b'
      · have d1 := decide_eq_true t1
        by_cases t2 : y < z
        · have d2 := decide_eq_true t2
          have hnext : Hid (∀ j, j < k + 1 → decide (at0 q j < at0 q L) = decide (at0 (nums p pl) j < at0 (nums p pl) L)) := hide (fun j hj => by
            by_cases hjk : j < k
            · exact unhide hx j hjk
            · obtain rfl : j = k := by omega
              rw [(unhide HE).1, (unhide HE).2, (unhide HA).1, (unhide HA).2.1, (unhide HA).2.2.1, (unhide HA).2.2.2, decide_eq_true t1, decide_eq_true t2])
          clear hx
          go_wp2
          go_quiet (fail)
          go_wp2
          go_roundw
          case rel => exact ⟨k + 1, by omega, by go_num, (unhide HD).more _, hnext⟩
          case measure => simp [intOf]; omega
        · have d2 := decide_eq_false t2
          obtain rfl : b = false := (unhide HB).symm.trans (fitL_no (k := k) (by rw [unhide HL]; omega) (by rw [unhide HL, Nat.add_sub_cancel, (unhide HE).1, (unhide HE).2, (unhide HA).1, (unhide HA).2.1, (unhide HA).2.2.1, (unhide HA).2.2.2, decide_eq_true t1, decide_eq_false t2]; decide))
          clear hx HB
          go_wp2
          go_quiet (fail)
          go_wp2
          go_ret
          exact ⟨rfl, (unhide HD).more _⟩
      · have d1 := decide_eq_false t1
        by_cases t2 : y < z
        · have d2 := decide_eq_true t2
          obtain rfl : b = false := (unhide HB).symm.trans (fitL_no (k := k) (by rw [unhide HL]; omega) (by rw [unhide HL, Nat.add_sub_cancel, (unhide HE).1, (unhide HE).2, (unhide HA).1, (unhide HA).2.1, (unhide HA).2.2.1, (unhide HA).2.2.2, decide_eq_false t1, decide_eq_true t2]; decide))
          clear hx HB
          go_wp2
          go_quiet (fail)
          go_wp2
          go_ret
          exact ⟨rfl, (unhide HD).more _⟩
        · have d2 := decide_eq_false t2
          have hnext : Hid (∀ j, j < k + 1 → decide (at0 q j < at0 q L) = decide (at0 (nums p pl) j < at0 (nums p pl) L)) := hide (fun j hj => by
            by_cases hjk : j < k
            · exact unhide hx j hjk
            · obtain rfl : j = k := by omega
              rw [(unhide HE).1, (unhide HE).2, (unhide HA).1, (unhide HA).2.1, (unhide HA).2.2.1, (unhide HA).2.2.2, decide_eq_false t1, decide_eq_false t2])
          clear hx
          go_wp2
          go_quiet (fail)
          go_wp2
          go_roundw
          case rel => exact ⟨k + 1, by omega, by go_num, (unhide HD).more _, hnext⟩
          case measure => simp [intOf]; omega
    · obtain rfl : L = k := by omega
      obtain rfl : b = true := (unhide HB).symm.trans (fitL_yes fun k hk => by
        rw [unhide HL, Nat.add_sub_cancel] at hk ⊢
        exact unhide hx k hk)
      clear hx HB
      go_wp2
      go_ret
      exact ⟨rfl, hd⟩
end Go.Proofs.YtinnlhfdgbeibaaGreat


/-
  spec.l7Find, spec.OccurrencesOf, spec.CountPattern, spec.HasPattern, by their contracts.
-/

namespace Go.Proofs.YtinnlhfdgbeibaaGreat
set_option maxRecDepth 100000
open Go.RowKit

theorem extK_len {p q : List Int} {m : Nat} {head : List Int} (ih : ∀ x, (extL p q m (head ++ [x])).length ≤ 2 ^ (p.length - x.toNat)) : ∀ j, j ≤ p.length - lastP head → (extK p q m head j).length + 2 ^ (p.length - lastP head - j) ≤ 2 ^ (p.length - lastP head)
  | 0, _ => by rw [extK_zero]; simp
  | j + 1, hj => by
    have h1 := extK_len ih j (by omega)
    have e : p.length - lastP head - j = (p.length - lastP head - (j + 1)) + 1 := by omega
    rw [e, Nat.pow_succ] at h1
    cases hf : fitL p q (head ++ [((lastP head + j + 1 : Nat) : Int)]) with
    | false => rw [extK_no hf]; omega
    | true =>
      have h2 := ih ((lastP head + j + 1 : Nat) : Int)
      rw [show p.length - ((lastP head + j + 1 : Nat) : Int).toNat = p.length - lastP head - (j + 1) by omega] at h2
      rw [extK_yes hf, List.length_append]
      omega
theorem extL_size {p q : List Int} : ∀ (m : Nat) (head : List Int), (extL p q m head).length ≤ 2 ^ (p.length - lastP head)
  | 0, head => by rw [extL, List.length_singleton]; exact Nat.one_le_two_pow
  | m + 1, head => by
    have h := extK_len (p := p) (q := q) (m := m) (head := head) (fun x => by
      have := extL_size (p := p) (q := q) m (head ++ [x])
      rwa [lastP_snoc] at this) (p.length - lastP head) (Nat.le_refl _)
    rw [extK_all] at h
    exact Nat.le_trans (Nat.le_add_right _ _) h
theorem extK_mono {p q : List Int} {m : Nat} {head : List Int} (j : Nat) : (extK p q m head j).length ≤ (extK p q m head (j + 1)).length := by
  cases hf : fitL p q (head ++ [((lastP head + j + 1 : Nat) : Int)]) with
  | false => rw [extK_no hf]; exact Nat.le_refl _
  | true => rw [extK_yes hf, List.length_append]; omega
theorem extK_le {p q : List Int} {m : Nat} {head : List Int} {j : Nat} (k : Nat) : (extK p q m head j).length ≤ (extK p q m head (j + k)).length := by
  induction k with
  | zero => exact Nat.le_refl _
  | succ k ih => exact Nat.le_trans ih (extK_mono _)
theorem occ_size (p q : List Int) (hp : isP p = true) : (occR p q).length ≤ 256 := by
  have h8 := isP_le hp
  unfold occR
  split
  · have := extL_size (p := p) (q := q) q.length []
    rw [lastP_nil] at this
    exact Nat.le_trans this (Nat.pow_le_pow_right (n := 2) (by decide) (show p.length - 0 ≤ 8 by omega))
  · simp

/-- What l7Find leaves: the list with more rows, of which none but head's own is older than the call. -/
def FindEnds (w : World) (B : Nat) (vs : List Value) (zss : List (List Int)) (hv : Value) (L : List (List Int)) (e : Ending) (w' : World) : Prop :=
  ∃ v' us, e = .returned v' ∧ w'.ownsRow B 24 1 v' (zss.length + L.length) (vs ++ us) ∧ Inner w' B (vs ++ us) (zss ++ L) ∧ (∀ x ∈ us, x = hv ∨ Since w.heap.size x) ∧ Below B w w' ∧ KeepI w w'

set_option maxHeartbeats 1600000 in
theorem l7find_any : ∀ (m : Nat) (A A' : Option Addr) (n c Bp n' c' Bq B : Nat) (p q : List Int) (Ah : Option Addr) (nh ch : Nat) (head : List Int) (v : Value) (vs : List Value) (zss : List (List Int)) (w : World)
    (_ : Arg w Bp A n c p) (_ : Arg w Bq A' n' c' q) (_ : Bp ≤ B) (_ : Bq ≤ B) (_ : B ≤ w.heap.size) (_ : isP p = true) (_ : isP q = true) (_ : head.length + m = q.length) (_ : PlOK p.length head) (_ : Ints w B (.slice Ah nh ch) head)
    (_ : w.ownsRow B 24 1 v zss.length vs) (_ : Inner w B vs zss) (_ : ∀ x ∈ vs, Away x (.slice Ah nh ch)) (_ : zss.length + (extL p q m head).length ≤ 1048576),
    Calls Tryz.prog 100 #[.slice A n c, .slice A' n' c', .slice Ah nh ch, v] w (FindEnds w B vs zss (.slice Ah nh ch) (extL p q m head)) := by
  intro m
  induction m with
  | zero =>
    intro A A' n c Bp n' c' Bq B p q Ah nh ch head v vs zss w h h' hBp hBq hB hp hq hm hP hh hown hin haw hlen
    obtain ⟨i0, hi, hz0, hz1, hz2⟩ := info_parts rowsInfo
    have hl' := h'.len
    have hnh := hh.len
    have heq : (nh : Int) = (n' : Int) := by omega
    obtain ⟨Av, cv, rfl, _⟩ := Reads.of_own hown
    rw [extL, List.length_singleton] at hlen
    rw [extL]
    have HH := hide (And.intro hin (And.intro haw hh))
    have HO := hide hown
    clear h h' hp hq hP hm hl' hin haw hh hnh
    go_enter Tryz.func100, Tryz.ntmps100
    go_wp2_with (first
      | (at_builtin; refine wpList_append_one rfl (.tmp 17) (.tmp 19) 26 rfl B 24 i0 (.slice none 0 0) 24 Tryz.underlying26 hi hz0 hz1 hz2 rfl w w _ _ _ rfl hown (.slice Ah nh ch) rfl rfl rfl (by omega) (by unfold maxLen; omega) (Below.refl _ _) hB ?_))
    intro v2 w2 hown2 hb2 hg2
    obtain ⟨hin, haw, hh⟩ := unhide HH
    have hk := KeepI.of_grown (unhide HO) hg2
    have hin2 := (hin.keepI hk).push (hh.keepI hk) haw
    clear hg2 hin haw hh
    go_wp2
    go_ret
    exact ⟨v2, [.slice Ah nh ch], rfl, hown2, hin2, fun x hx => .inl (List.mem_singleton.1 hx), hb2, hk⟩
  | succ m ih =>
    intro A A' n c Bp n' c' Bq B p q Ah nh ch head v vs zss w h h' hBp hBq hB hp hq hm hP hh hown hin haw hlen
    obtain ⟨i0, hi, hz0, hz1, hz2⟩ := info_parts intInfo
    have hl := h.len
    have hl' := h'.len
    have hnh := hh.len
    have h8 := isP_le hp
    have hq8 := isP_le hq
    have hne : ¬ (nh : Int) = (n' : Int) := by omega
    have hnh8 : nh ≤ 8 := by omega
    have hn8 : n ≤ 8 := by omega
    have hlast := lastP_le hP
    obtain ⟨Av, cv, rfl, _⟩ := Reads.of_own hown
    have hu0 := hh.until_
    have HX := hide (fun (j : Nat) (hj : j < p.length - lastP head) => show zss.length + (extK p q m head (j + 1)).length ≤ 1048576 from by
      have := extK_le (p := p) (q := q) (m := m) (head := head) (j := j + 1) (p.length - lastP head - (j + 1))
      rw [show j + 1 + (p.length - lastP head - (j + 1)) = p.length - lastP head by omega, extK_all] at this
      omega)
    have HC : Hid (Ints w B (.slice Ah nh ch) head ∧ w.ownsRow B 24 1 (.slice Av zss.length cv) (zss.length + (extK p q m head 0).length) (vs ++ []) ∧ Inner w B (vs ++ []) (zss ++ extK p q m head 0) ∧ (∀ x ∈ ([] : List Value), Since w.heap.size x) ∧ Below B w w ∧ KeepI w w) :=
      hide ⟨hh, by rw [extK_zero, List.append_nil]; exact hown, by rw [extK_zero, List.append_nil, List.append_nil]; exact hin, fun x hx => by simp at hx, Below.refl _ _, KeepI.refl _⟩
    have HA := hide (And.intro haw (And.intro hP (And.intro hp hq)))
    obtain ⟨f, hf⟩ : ∃ f, lastP head = f := ⟨_, rfl⟩
    have hf0 : (∀ k, nh = k + 1 → ∃ ad, Ah = some ad ∧ w.cell? (ad.add k) = some (.int .i64 (f : Int))) ∧ (nh = 0 → f = 0) := by
      constructor
      · intro k hk
        obtain ⟨ad, u, rfl, _, hu, hc⟩ := hh.reads.at_ (show k < nh by omega)
        obtain ⟨z, hz, rfl⟩ := i64_at hu
        have hr := hP.rng (i := k) (by omega)
        rw [at0_of hz] at hr
        rw [lastP_at (by omega), show head.length - 1 = k by omega, at0_of hz] at hf
        exact ⟨ad, rfl, by rw [hc, show z = (f : Int) by omega]⟩
      · intro h0
        have : head = [] := List.eq_nil_of_length_eq_zero (by omega)
        subst this
        exact hf.symm
    have HF := hide hf
    have HL := hide hlen
    have HM := hide (And.intro hm hnh)
    rw [hf] at hlast
    clear hh hown hin haw hP hp hq hlen hf hm hnh
    cases nh with
    | zero =>
      have HZ := hide (hf0.2 rfl)
      have e0 : ((0 : Int) == (n' : Int)) = false := by rw [beq_eq_false_iff_ne]; omega
      clear hf0
      go_enter Tryz.func100, Tryz.ntmps100
      go_wp2
      go_loopw [3, 10, 11] (fun o i _ wr => ∃ (j : Nat) (us : List Value), j ≤ p.length - f ∧ i = .int .i64 ((f + j + 1 : Nat) : Int) ∧ Hid (Ints wr B (.slice Ah 0 ch) head ∧ wr.ownsRow B 24 1 o (zss.length + (extK p q m head j).length) (vs ++ us) ∧ Inner wr B (vs ++ us) (zss ++ extK p q m head j) ∧ (∀ x ∈ us, Since w.heap.size x) ∧ Below B w wr ∧ KeepI w wr)) (fun _ i _ _ => (p.length + 1 - (intOf i).toNat))
      case atStart => exact ⟨0, [], Nat.zero_le _, by rw [unhide HZ]; rfl, HC⟩
      case round =>
        obtain ⟨j, us, hj, rfl, HCr⟩ := hrel
        clear HC
        obtain ⟨Ao, co, rfl, _⟩ := Reads.of_own (unhide HCr).2.1
        by_cases hlt : j < p.length - f
        · have hst := own0 wr wr.heap.size (Nat.le_refl _)
          have hal := (Below.refl wr.heap.size wr).alloc (Nat.le_refl _) (.cells #[] 3)
          have hArg := ((unhide HCr).1.arg (by omega) (unhide HCr).1.cap (fun z hz => by have := (unhide HA).2.1.1 z hz; omega)).below hal
          have hBw : B ≤ wr.heap.size := Nat.le_trans hB (unhide HCr).2.2.2.2.1.size
          go_wp2_with (first
            | (at_builtin; refine wpList_append_arg rfl (.tmp 38) (.tmp 39) rfl wr.heap.size _ 0 (0) ch _ _ Ah [] head rfl rfl hst hArg (by omega) hal (by simp) ?_))
          intro v5 w5 hown5 hb5 hg5
          have hs5 := hb5.size
          clear hg5 hst hal hArg
          go_wp2_with (first
            | (at_builtin; refine wpList_append_one rfl (.tmp 40) (.tmp 42) 24 rfl wr.heap.size 3 i0 (.int .i64 0) 8 Tryz.underlying24 hi hz0 hz1 hz2 rfl wr w5 _ _ _ rfl hown5 (.int .i64 ((f + j + 1 : Nat) : Int)) rfl rfl rfl (by omega) (by unfold maxLen; omega) hb5 hs5 ?_))
          intro v6 w6 hown6 hb6 hg6
          rw [i64_snoc] at hown6
          clear hg6 hown5 hb5 hs5
          have hI6 : Ints w6 wr.heap.size v6 (head ++ [((f + j + 1 : Nat) : Int)]) := Ints.of_own hown6
          obtain ⟨A6, c6, rfl, _⟩ := Reads.of_own hown6
          obtain ⟨x1, x2, x3, x4, x5, x6⟩ := unhide HCr
          have y5 : Below B w w6 := x5.trans (hb6.mono hBw)
          have hP6 : PlOK p.length (head ++ [((f + j + 1 : Nat) : Int)]) := PlOK.snoc.2 ⟨(unhide HA).2.1, by rw [unhide HF]; omega, by omega⟩
          have hA6 : Arg w6 w6.heap.size A6 (0 + 1) c6 (head ++ [((f + j + 1 : Nat) : Int)]) := hI6.arg (by omega) hI6.cap (fun z hz => by have := hP6.1 z hz; omega)
          obtain ⟨b, hb⟩ : ∃ b, fitL p q (head ++ [((f + j + 1 : Nat) : Int)]) = b := ⟨_, rfl⟩
          have H1 := hide (l7fits_any A A' A6 n c Bp n' c' Bq _ c6 _ p q _ b hb w6 (h.stay y5 hBp) (h'.stay y5 hBq) hA6 hP6 (by omega) (by have := (unhide HM).1; have := (unhide HM).2; omega))
          have hsn := hI6.since
          have haw6 : ∀ x ∈ vs ++ us, Away x (.slice A6 (0 + 1) c6) := x3.away_new hsn (Nat.le_refl _)
          have hws : w.heap.size ≤ wr.heap.size := x5.size
          have HEX := hide (unhide HX j (by rw [unhide HF]; omega))
          cases b with
          | false =>
            have HE : Hid (extK p q m head (j + 1) = extK p q m head j) := hide (extK_no (by rw [unhide HF]; exact hb))
            have HC6 : Hid (Ints w6 B (.slice Ah 0 ch) head ∧ w6.ownsRow B 24 1 (.slice Ao (zss.length + (extK p q m head j).length) co) (zss.length + (extK p q m head j).length) (vs ++ us) ∧ Inner w6 B (vs ++ us) (zss ++ extK p q m head j) ∧ (∀ x ∈ us, Since w.heap.size x) ∧ Below B w w6 ∧ KeepI w w6) :=
              hide ⟨x1.below hb6, own_below x2 hb6, x3.keepI (KeepI.of_below hb6), x4, y5, x6.trans (KeepI.of_below hb6)⟩
            clear hI6 hown6 hb6 x1 x2 x3 x4 x5 x6 y5 hP6 hA6 hb hsn haw6 HCr HEX
            go_wp2_with fail
            refine (unhide H1).mono ?_
            rintro e w7 ⟨rfl, hd⟩
            have HC7 : Hid (Ints w7 B (.slice Ah 0 ch) head ∧ w7.ownsRow B 24 1 (.slice Ao (zss.length + (extK p q m head j).length) co) (zss.length + (extK p q m head (j + 1)).length) (vs ++ us) ∧ Inner w7 B (vs ++ us) (zss ++ extK p q m head (j + 1)) ∧ (∀ x ∈ us, Since w.heap.size x) ∧ Below B w w7 ∧ KeepI w w7) := hide (by
              obtain ⟨x1, x2, x3, x4, x5, x6⟩ := unhide HC6
              rw [unhide HE]
              exact ⟨x1.below (hd.below _), own_below x2 (hd.below _), x3.keepI hd.keepI, x4, x5.trans (hd.below _), x6.trans hd.keepI⟩)
            clear H1 hd HC6 HE
            go_wp2
            go_roundw
            case rel => exact ⟨j + 1, us, by omega, by go_num, HC7⟩
            case measure => simp [intOf]; omega
          | true =>
            have HE : Hid (extK p q m head (j + 1) = extK p q m head j ++ extL p q m (head ++ [((f + j + 1 : Nat) : Int)])) := hide (by have := extK_yes (p := p) (q := q) (m := m) (head := head) (j := j) (by rw [unhide HF]; exact hb); rwa [unhide HF] at this)
            have H2 := hide (fun (w7 : World) (hd : Below w6.heap.size w6 w7) => ih A A' n c Bp n' c' Bq B p q A6 _ c6 (head ++ [((f + j + 1 : Nat) : Int)]) (.slice Ao (zss.length + (extK p q m head j).length) co) (vs ++ us) (zss ++ extK p q m head j) w7 (h.stay (y5.trans (hd.mono (Nat.le_trans hBw hb6.size))) hBp) (h'.stay (y5.trans (hd.mono (Nat.le_trans hBw hb6.size))) hBq) hBp hBq (Nat.le_trans hBw (Nat.le_trans hb6.size hd.size)) (unhide HA).2.2.1 (unhide HA).2.2.2 (by have := (unhide HM).1; rw [List.length_append, List.length_singleton]; omega) hP6 ((hI6.below hd).low hBw)
              (by rw [List.length_append]; exact own_below (own_below x2 hb6) hd) ((x3.keepI (KeepI.of_below hb6)).keepI (KeepI.of_below hd)) haw6 (by have := unhide HEX; rw [unhide HE, List.length_append] at this; rw [List.length_append]; omega))
            have HC6 := hide (And.intro (x1.below hb6) (And.intro x4 (And.intro y5 (x6.trans (KeepI.of_below hb6)))))
            have hb6s := hb6.size
            clear hI6 hown6 hb6 x1 x2 x3 x4 x5 x6 y5 hP6 hA6 hb haw6 HCr HEX
            go_wp2_with fail
            refine (unhide H1).mono ?_
            rintro e w7 ⟨rfl, hd⟩
            have H3 := hide (unhide H2 w7 (hd.below _))
            clear H1 H2
            go_wp2_with fail
            refine (unhide H3).mono ?_
            rintro e w8 ⟨v8, us2, rfl, o8, i8, hu8, hb8, hk8⟩
            have HC8 : Hid (Ints w8 B (.slice Ah 0 ch) head ∧ w8.ownsRow B 24 1 v8 (zss.length + (extK p q m head (j + 1)).length) (vs ++ (us ++ us2)) ∧ Inner w8 B (vs ++ (us ++ us2)) (zss ++ extK p q m head (j + 1)) ∧ (∀ x ∈ us ++ us2, Since w.heap.size x) ∧ Below B w w8 ∧ KeepI w w8) := hide (by
              obtain ⟨x1, x4, x5, x6⟩ := unhide HC6
              rw [List.append_assoc] at o8 i8
              rw [List.append_assoc, ← unhide HE] at i8
              rw [List.length_append, Nat.add_assoc, ← List.length_append, ← unhide HE] at o8
              refine ⟨(x1.below (hd.below _)).keepI hk8, o8, i8, fun x hx => ?_, (x5.trans (hd.below _)).trans hb8, (x6.trans hd.keepI).trans hk8⟩
              rcases List.mem_append.1 hx with hx | hx
              · exact x4 x hx
              · rcases hu8 x hx with rfl | hx
                · exact hsn.mono hws
                · exact hx.mono (by have := hd.size; omega))
            clear H3 o8 i8 hu8 hb8 hk8 hd HC6 hsn HE
            go_wp2
            go_roundw
            case rel => exact ⟨j + 1, us ++ us2, by omega, by go_num, HC8⟩
            case measure => simp [intOf]; omega
        · obtain rfl : j = p.length - f := by omega
          obtain ⟨x1, x2, x3, x4, x5, x6⟩ := unhide HCr
          have hE : extK p q m head (p.length - f) = extL p q (m + 1) head := by have := extK_all p q m head; rwa [unhide HF] at this
          have HR : Hid (wr.ownsRow B 24 1 (.slice Ao (zss.length + (extK p q m head (p.length - f)).length) co) (zss.length + (extL p q (m + 1) head).length) (vs ++ us) ∧ Inner wr B (vs ++ us) (zss ++ extL p q (m + 1) head) ∧ (∀ x ∈ us, Since w.heap.size x) ∧ Below B w wr ∧ KeepI w wr) :=
            hide ⟨by rw [← hE]; exact x2, by rw [← hE]; exact x3, x4, x5, x6⟩
          clear x1 x2 x3 x4 x5 x6 HCr hE
          go_wp2
          go_ret
          obtain ⟨x2, x3, x4, x5, x6⟩ := unhide HR
          exact ⟨_, us, rfl, x2, x3, fun x hx => .inr (x4 x hx), x5, x6⟩
    | succ nh =>
      obtain ⟨adh, rfl, hcl⟩ := hf0.1 nh rfl
      have hki : ((nh + 1 : Nat) : Int) - 1 = (nh : Int) := by omega
      have e0 : ((nh : Int) + 1 == (n' : Int)) = false := by rw [beq_eq_false_iff_ne]; omega
      clear hf0
      go_enter Tryz.func100, Tryz.ntmps100
      go_wp2
      clear hcl hki
      go_loopw [3, 10, 11] (fun o i _ wr => ∃ (j : Nat) (us : List Value), j ≤ p.length - f ∧ i = .int .i64 ((f + j + 1 : Nat) : Int) ∧ Hid (Ints wr B (.slice (some adh) (nh + 1) ch) head ∧ wr.ownsRow B 24 1 o (zss.length + (extK p q m head j).length) (vs ++ us) ∧ Inner wr B (vs ++ us) (zss ++ extK p q m head j) ∧ (∀ x ∈ us, Since w.heap.size x) ∧ Below B w wr ∧ KeepI w wr)) (fun _ i _ _ => (p.length + 1 - (intOf i).toNat))
      case atStart => exact ⟨0, [], Nat.zero_le _, by go_num, HC⟩
      case round =>
        obtain ⟨j, us, hj, rfl, HCr⟩ := hrel
        clear HC
        obtain ⟨Ao, co, rfl, _⟩ := Reads.of_own (unhide HCr).2.1
        by_cases hlt : j < p.length - f
        · have hst := own0 wr wr.heap.size (Nat.le_refl _)
          have hal := (Below.refl wr.heap.size wr).alloc (Nat.le_refl _) (.cells #[] 3)
          have hArg := ((unhide HCr).1.arg (by omega) (unhide HCr).1.cap (fun z hz => by have := (unhide HA).2.1.1 z hz; omega)).below hal
          have hBw : B ≤ wr.heap.size := Nat.le_trans hB (unhide HCr).2.2.2.2.1.size
          go_wp2_with (first
            | (at_builtin; refine wpList_append_arg rfl (.tmp 38) (.tmp 39) rfl wr.heap.size _ 0 ((nh + 1)) ch _ _ (some adh) [] head rfl rfl hst hArg (by omega) hal (by simp) ?_))
          intro v5 w5 hown5 hb5 hg5
          have hs5 := hb5.size
          clear hg5 hst hal hArg
          go_wp2_with (first
            | (at_builtin; refine wpList_append_one rfl (.tmp 40) (.tmp 42) 24 rfl wr.heap.size 3 i0 (.int .i64 0) 8 Tryz.underlying24 hi hz0 hz1 hz2 rfl wr w5 _ _ _ rfl hown5 (.int .i64 ((f + j + 1 : Nat) : Int)) rfl rfl rfl (by omega) (by unfold maxLen; omega) hb5 hs5 ?_))
          intro v6 w6 hown6 hb6 hg6
          rw [i64_snoc] at hown6
          clear hg6 hown5 hb5 hs5
          have hI6 : Ints w6 wr.heap.size v6 (head ++ [((f + j + 1 : Nat) : Int)]) := Ints.of_own hown6
          obtain ⟨A6, c6, rfl, _⟩ := Reads.of_own hown6
          obtain ⟨x1, x2, x3, x4, x5, x6⟩ := unhide HCr
          have y5 : Below B w w6 := x5.trans (hb6.mono hBw)
          have hP6 : PlOK p.length (head ++ [((f + j + 1 : Nat) : Int)]) := PlOK.snoc.2 ⟨(unhide HA).2.1, by rw [unhide HF]; omega, by omega⟩
          have hA6 : Arg w6 w6.heap.size A6 ((nh + 1) + 1) c6 (head ++ [((f + j + 1 : Nat) : Int)]) := hI6.arg (by omega) hI6.cap (fun z hz => by have := hP6.1 z hz; omega)
          obtain ⟨b, hb⟩ : ∃ b, fitL p q (head ++ [((f + j + 1 : Nat) : Int)]) = b := ⟨_, rfl⟩
          have H1 := hide (l7fits_any A A' A6 n c Bp n' c' Bq _ c6 _ p q _ b hb w6 (h.stay y5 hBp) (h'.stay y5 hBq) hA6 hP6 (by omega) (by have := (unhide HM).1; have := (unhide HM).2; omega))
          have hsn := hI6.since
          have haw6 : ∀ x ∈ vs ++ us, Away x (.slice A6 ((nh + 1) + 1) c6) := x3.away_new hsn (Nat.le_refl _)
          have hws : w.heap.size ≤ wr.heap.size := x5.size
          have HEX := hide (unhide HX j (by rw [unhide HF]; omega))
          cases b with
          | false =>
            have HE : Hid (extK p q m head (j + 1) = extK p q m head j) := hide (extK_no (by rw [unhide HF]; exact hb))
            have HC6 : Hid (Ints w6 B (.slice (some adh) (nh + 1) ch) head ∧ w6.ownsRow B 24 1 (.slice Ao (zss.length + (extK p q m head j).length) co) (zss.length + (extK p q m head j).length) (vs ++ us) ∧ Inner w6 B (vs ++ us) (zss ++ extK p q m head j) ∧ (∀ x ∈ us, Since w.heap.size x) ∧ Below B w w6 ∧ KeepI w w6) :=
              hide ⟨x1.below hb6, own_below x2 hb6, x3.keepI (KeepI.of_below hb6), x4, y5, x6.trans (KeepI.of_below hb6)⟩
            clear hI6 hown6 hb6 x1 x2 x3 x4 x5 x6 y5 hP6 hA6 hb hsn haw6 HCr HEX
            go_wp2_with fail
            refine (unhide H1).mono ?_
            rintro e w7 ⟨rfl, hd⟩
            have HC7 : Hid (Ints w7 B (.slice (some adh) (nh + 1) ch) head ∧ w7.ownsRow B 24 1 (.slice Ao (zss.length + (extK p q m head j).length) co) (zss.length + (extK p q m head (j + 1)).length) (vs ++ us) ∧ Inner w7 B (vs ++ us) (zss ++ extK p q m head (j + 1)) ∧ (∀ x ∈ us, Since w.heap.size x) ∧ Below B w w7 ∧ KeepI w w7) := hide (by
              obtain ⟨x1, x2, x3, x4, x5, x6⟩ := unhide HC6
              rw [unhide HE]
              exact ⟨x1.below (hd.below _), own_below x2 (hd.below _), x3.keepI hd.keepI, x4, x5.trans (hd.below _), x6.trans hd.keepI⟩)
            clear H1 hd HC6 HE
            go_wp2
            go_roundw
            case rel => exact ⟨j + 1, us, by omega, by go_num, HC7⟩
            case measure => simp [intOf]; omega
          | true =>
            have HE : Hid (extK p q m head (j + 1) = extK p q m head j ++ extL p q m (head ++ [((f + j + 1 : Nat) : Int)])) := hide (by have := extK_yes (p := p) (q := q) (m := m) (head := head) (j := j) (by rw [unhide HF]; exact hb); rwa [unhide HF] at this)
            have H2 := hide (fun (w7 : World) (hd : Below w6.heap.size w6 w7) => ih A A' n c Bp n' c' Bq B p q A6 _ c6 (head ++ [((f + j + 1 : Nat) : Int)]) (.slice Ao (zss.length + (extK p q m head j).length) co) (vs ++ us) (zss ++ extK p q m head j) w7 (h.stay (y5.trans (hd.mono (Nat.le_trans hBw hb6.size))) hBp) (h'.stay (y5.trans (hd.mono (Nat.le_trans hBw hb6.size))) hBq) hBp hBq (Nat.le_trans hBw (Nat.le_trans hb6.size hd.size)) (unhide HA).2.2.1 (unhide HA).2.2.2 (by have := (unhide HM).1; rw [List.length_append, List.length_singleton]; omega) hP6 ((hI6.below hd).low hBw)
              (by rw [List.length_append]; exact own_below (own_below x2 hb6) hd) ((x3.keepI (KeepI.of_below hb6)).keepI (KeepI.of_below hd)) haw6 (by have := unhide HEX; rw [unhide HE, List.length_append] at this; rw [List.length_append]; omega))
            have HC6 := hide (And.intro (x1.below hb6) (And.intro x4 (And.intro y5 (x6.trans (KeepI.of_below hb6)))))
            have hb6s := hb6.size
            clear hI6 hown6 hb6 x1 x2 x3 x4 x5 x6 y5 hP6 hA6 hb haw6 HCr HEX
            go_wp2_with fail
            refine (unhide H1).mono ?_
            rintro e w7 ⟨rfl, hd⟩
            have H3 := hide (unhide H2 w7 (hd.below _))
            clear H1 H2
            go_wp2_with fail
            refine (unhide H3).mono ?_
            rintro e w8 ⟨v8, us2, rfl, o8, i8, hu8, hb8, hk8⟩
            have HC8 : Hid (Ints w8 B (.slice (some adh) (nh + 1) ch) head ∧ w8.ownsRow B 24 1 v8 (zss.length + (extK p q m head (j + 1)).length) (vs ++ (us ++ us2)) ∧ Inner w8 B (vs ++ (us ++ us2)) (zss ++ extK p q m head (j + 1)) ∧ (∀ x ∈ us ++ us2, Since w.heap.size x) ∧ Below B w w8 ∧ KeepI w w8) := hide (by
              obtain ⟨x1, x4, x5, x6⟩ := unhide HC6
              rw [List.append_assoc] at o8 i8
              rw [List.append_assoc, ← unhide HE] at i8
              rw [List.length_append, Nat.add_assoc, ← List.length_append, ← unhide HE] at o8
              refine ⟨(x1.below (hd.below _)).keepI hk8, o8, i8, fun x hx => ?_, (x5.trans (hd.below _)).trans hb8, (x6.trans hd.keepI).trans hk8⟩
              rcases List.mem_append.1 hx with hx | hx
              · exact x4 x hx
              · rcases hu8 x hx with rfl | hx
                · exact hsn.mono hws
                · exact hx.mono (by have := hd.size; omega))
            clear H3 o8 i8 hu8 hb8 hk8 hd HC6 hsn HE
            go_wp2
            go_roundw
            case rel => exact ⟨j + 1, us ++ us2, by omega, by go_num, HC8⟩
            case measure => simp [intOf]; omega
        · obtain rfl : j = p.length - f := by omega
          obtain ⟨x1, x2, x3, x4, x5, x6⟩ := unhide HCr
          have hE : extK p q m head (p.length - f) = extL p q (m + 1) head := by have := extK_all p q m head; rwa [unhide HF] at this
          have HR : Hid (wr.ownsRow B 24 1 (.slice Ao (zss.length + (extK p q m head (p.length - f)).length) co) (zss.length + (extL p q (m + 1) head).length) (vs ++ us) ∧ Inner wr B (vs ++ us) (zss ++ extL p q (m + 1) head) ∧ (∀ x ∈ us, Since w.heap.size x) ∧ Below B w wr ∧ KeepI w wr) :=
            hide ⟨by rw [← hE]; exact x2, by rw [← hE]; exact x3, x4, x5, x6⟩
          clear x1 x2 x3 x4 x5 x6 HCr hE
          go_wp2
          go_ret
          obtain ⟨x2, x3, x4, x5, x6⟩ := unhide HR
          exact ⟨_, us, rfl, x2, x3, fun x hx => .inr (x4 x hx), x5, x6⟩
end Go.Proofs.YtinnlhfdgbeibaaGreat


/-
  spec.OccurrencesOf, spec.CountPattern, spec.HasPattern, spec.IsOccurrence, by their contracts.
-/

namespace Go.Proofs.YtinnlhfdgbeibaaGreat
set_option maxRecDepth 100000
open Go.RowKit

set_option maxHeartbeats 800000 in
theorem soccs_any (A A' : Option Addr) (n c B n' c' B' : Nat) (p q : List Int) (w : World) (h : Arg w B A n c p) (h' : Arg w B' A' n' c' q) :
    Calls Tryz.prog 80 #[.slice A n c, .slice A' n' c'] w (GivesSS w (occR p q)) := by
  obtain ⟨b, hb⟩ : ∃ b, isP p = b := ⟨_, rfl⟩
  obtain ⟨b', hb'⟩ : ∃ b, isP q = b := ⟨_, rfl⟩
  have H0 := hide (sisperm_any A n c B p b hb w h.reads h.le h.cap)
  cases b with
  | false =>
    have HR := hide (occR_no (p := p) (q := q) (.inl hb))
    rw [unhide HR]
    clear h h' hb hb'
    go_enter Tryz.func80, Tryz.ntmps80
    go_wp2_with fail
    refine (unhide H0).mono ?_
    rintro e w1 ⟨rfl, hd⟩
    have hb1 := hd.below w.heap.size
    have hm := IntsS.made0 w1 w.heap.size hb1.size
    clear H0 hd
    go_wp2
    go_ret
    exact GivesSS.mk hm (hb1.alloc hb1.size _)
  | true =>
    have H1 := hide (fun w' (hb'' : Below w.heap.size w w') => sisperm_any A' n' c' B' q b' hb' w' (h'.below hb'').reads h'.le h'.cap)
    cases b' with
    | false =>
      have HR := hide (occR_no (p := p) (q := q) (.inr hb'))
      rw [unhide HR]
      clear h h' hb hb'
      go_enter Tryz.func80, Tryz.ntmps80
      go_wp2_with fail
      refine (unhide H0).mono ?_
      rintro e w1 ⟨rfl, hd⟩
      have hb1 := hd.below w.heap.size
      have H2 := hide (unhide H1 w1 hb1)
      clear H0 H1 hd
      go_wp2_with fail
      refine (unhide H2).mono ?_
      rintro e w2 ⟨rfl, hd2⟩
      have hb2 := hb1.trans (hd2.below _)
      have hm := IntsS.made0 w2 w.heap.size hb2.size
      clear H2 hd2 hb1
      go_wp2
      go_ret
      exact GivesSS.mk hm (hb2.alloc hb2.size _)
    | true =>
      have HR := hide (occR_yes hb hb')
      have hsz := occ_size p q hb
      rw [unhide HR] at hsz ⊢
      have H3 := hide (fun (w' : World) (hx : Below w.heap.size w w') => l7find_any q.length A A' n c B n' c' B' w.heap.size p q (some ⟨w'.heap.size, 0, none⟩) 0 0 [] (.slice (some ⟨w'.heap.size + 1, 0, none⟩) 0 0) [] []
        ((w'.alloc (.cells #[] 3)).alloc (.cells #[] 24)) (h.below ((hx.alloc hx.size _).alloc (by have := hx.size; simp; omega) _)) (h'.below ((hx.alloc hx.size _).alloc (by have := hx.size; simp; omega) _)) h.under h'.under (by have := hx.size; simp; omega) hb hb' (by simp) (PlOK.nil _)
        ((Ints.made0 w' w.heap.size hx.size).below ((Below.refl _ _).alloc (Nat.le_refl _) _)) (by have := ownS0 (w'.alloc (.cells #[] 3)) w.heap.size (by have := hx.size; simp; omega); rw [World.size_alloc] at this; exact this) (Inner.nil _ _) (fun x hx => by cases hx) (by simp only [List.length_nil]; omega))
      clear h h' hb hb' hsz
      go_enter Tryz.func80, Tryz.ntmps80
      go_wp2_with fail
      refine (unhide H0).mono ?_
      rintro e w1 ⟨rfl, hd⟩
      have hb1 := hd.below w.heap.size
      have H2 := hide (unhide H1 w1 hb1)
      clear H0 H1 hd
      go_wp2_with fail
      refine (unhide H2).mono ?_
      rintro e w2 ⟨rfl, hd2⟩
      have hb2 := hb1.trans (hd2.below _)
      have H4 := hide (unhide H3 w2 hb2)
      clear H2 H3 hd2 hb1
      go_wp2_with fail
      refine (unhide H4).mono ?_
      rintro e w5 ⟨v, us, rfl, o5, i5, _, hb5, _⟩
      have hS : IntsS w5 w.heap.size v (extL p q q.length []) := ⟨us, by simpa using o5, by simpa using i5⟩
      have hb6 := ((hb2.alloc hb2.size (.cells #[] 3)).alloc (by have := hb2.size; simp; omega) (.cells #[] 24)).trans hb5
      clear H4 o5 i5 hb5
      go_wp2
      go_ret
      exact GivesSS.mk hS hb6
/-- How often q occurs in p. -/
def numOcc (p q : List Int) : Int := if isP p && isP q then ((occR p q).length : Int) else -1
set_option maxHeartbeats 800000 in
theorem scnt_any (A A' : Option Addr) (n c B n' c' B' : Nat) (p q : List Int) (w : World) (h : Arg w B A n c p) (h' : Arg w B' A' n' c' q) :
    Calls Tryz.prog 52 #[.slice A n c, .slice A' n' c'] w fun e w' => e = .returned (.int .i64 (numOcc p q)) ∧ Below w.heap.size w w' := by
  obtain ⟨b, hb⟩ : ∃ b, isP p = b := ⟨_, rfl⟩
  obtain ⟨b', hb'⟩ : ∃ b, isP q = b := ⟨_, rfl⟩
  have H0 := hide (sisperm_any A n c B p b hb w h.reads h.le h.cap)
  have H1 := hide (fun w' (hx : Below w.heap.size w w') => sisperm_any A' n' c' B' q b' hb' w' (h'.below hx).reads h'.le h'.cap)
  cases b with
  | false =>
    have e : numOcc p q = -1 := by unfold numOcc; rw [hb]; rfl
    rw [e]
    clear h h' hb hb' e H1
    go_enter Tryz.func52, Tryz.ntmps52
    go_wp2_with fail
    refine (unhide H0).mono ?_
    rintro e w1 ⟨rfl, hd⟩
    have hb1 := hd.below w.heap.size
    clear H0 hd
    go_wp2
    go_ret
    exact ⟨rfl, hb1⟩
  | true =>
    cases b' with
    | false =>
      have e : numOcc p q = -1 := by unfold numOcc; rw [hb, hb']; rfl
      rw [e]
      clear h h' hb hb' e
      go_enter Tryz.func52, Tryz.ntmps52
      go_wp2_with fail
      refine (unhide H0).mono ?_
      rintro e w1 ⟨rfl, hd⟩
      have hb1 := hd.below w.heap.size
      have H2 := hide (unhide H1 w1 hb1)
      clear H0 H1 hd
      go_wp2_with fail
      refine (unhide H2).mono ?_
      rintro e w2 ⟨rfl, hd2⟩
      have hb2 := hb1.trans (hd2.below _)
      clear H2 hd2 hb1
      go_wp2
      go_ret
      exact ⟨rfl, hb2⟩
    | true =>
      have e : numOcc p q = ((occR p q).length : Int) := by unfold numOcc; rw [hb, hb']; rfl
      rw [e]
      have H3 := hide (fun w' (hx : Below w.heap.size w w') => soccs_any A A' n c B n' c' B' p q w' (h.below hx) (h'.below hx))
      have hsz := occ_size p q hb
      obtain ⟨R, hR⟩ : ∃ R, occR p q = R := ⟨_, rfl⟩
      rw [hR] at H3 hsz ⊢
      clear h h' hb hb' e hR
      go_enter Tryz.func52, Tryz.ntmps52
      go_wp2_with fail
      refine (unhide H0).mono ?_
      rintro e w1 ⟨rfl, hd⟩
      have hb1 := hd.below w.heap.size
      have H2 := hide (unhide H1 w1 hb1)
      clear H0 H1 hd
      go_wp2_with fail
      refine (unhide H2).mono ?_
      rintro e w2 ⟨rfl, hd2⟩
      have hb2 := hb1.trans (hd2.below _)
      have H4 := hide (unhide H3 w2 hb2)
      clear H2 H3 hd2 hb1
      go_wp2_with fail
      refine (unhide H4).mono ?_
      rintro e w3 ⟨A3, c3, rfl, hS, hb3⟩
      have hb4 := below_after hb2 hb3
      clear H4 hS hb3
      go_wp2
      go_ret
      exact ⟨rfl, hb4⟩
def hasR (p q : List Int) : Bool := decide (1 ≤ numOcc p q)
theorem numOcc_rng (p q : List Int) : -1 ≤ numOcc p q ∧ numOcc p q ≤ 256 := by
  unfold numOcc
  by_cases h : (isP p && isP q) = true
  · rw [if_pos h]
    have := occ_size p q (by simp at h; exact h.1)
    omega
  · rw [if_neg h]; omega
set_option maxHeartbeats 800000 in
theorem shas_any (A A' : Option Addr) (n c B n' c' B' : Nat) (p q : List Int) (w : World) (h : Arg w B A n c p) (h' : Arg w B' A' n' c' q) :
    Calls Tryz.prog 22 #[.slice A n c, .slice A' n' c'] w (GivesB w (hasR p q)) := by
  have H0 := hide (scnt_any A A' n c B n' c' B' p q w h h')
  unfold hasR
  have hr := numOcc_rng p q
  obtain ⟨R, hR⟩ : ∃ R, numOcc p q = R := ⟨_, rfl⟩
  rw [hR] at H0 hr ⊢
  clear h h' hR
  by_cases h1 : 1 ≤ R
  · rw [decide_eq_true h1]
    go_enter Tryz.func22, Tryz.ntmps22
    go_wp2_with fail
    refine (unhide H0).mono ?_
    rintro e w1 ⟨rfl, hb1⟩
    clear H0
    go_wp2
    go_ret
    exact ⟨by simp, hb1⟩
  · rw [decide_eq_false h1]
    go_enter Tryz.func22, Tryz.ntmps22
    go_wp2_with fail
    refine (unhide H0).mono ?_
    rintro e w1 ⟨rfl, hb1⟩
    clear H0
    go_wp2
    go_ret
    exact ⟨by simp; omega, hb1⟩
end Go.Proofs.YtinnlhfdgbeibaaGreat


/-
  spec.l3Put, by its contract: of the old blocks the list's own alone has turned.
-/

namespace Go.Proofs.YtinnlhfdgbeibaaGreat
set_option maxRecDepth 100000
open Go.RowKit

/-- Of the old blocks none but g has turned. -/
structure KG (g : Nat) (w w' : World) : Prop where
  keep : KeepI w w'
  gr : w.grownBy w' (some g)
theorem KG.more {g : Nat} {w a b : World} (h : KG g w a) (hb : Below a.heap.size a b) : KG g w b := ⟨h.keep.trans (KeepI.of_below hb), grown_then h.gr (grown_of_below hb _)⟩
theorem KG.grown {g : Nat} {w a b : World} {B n : Nat} {v : Value} {xs : List Value} (h : KG g w a) (hown : a.ownsRow B 24 1 v n xs) (hg : a.grownBy b v.ownBlock) (hv : v.ownBlock = some g ∨ ∃ k, v.ownBlock = some k ∧ w.heap.size ≤ k) : KG g w b :=
  ⟨h.keep.trans (KeepI.of_grown hown hg), ⟨hg.os.trans h.gr.os, hg.tape.trans h.gr.tape, hg.output.trans h.gr.output, Nat.le_trans h.gr.size hg.size, fun i hi hne => (hg.block i (Nat.lt_of_lt_of_le hi h.gr.size) (fun e => by
    rcases hv with hv | ⟨k, hv, hk⟩
    · exact hne (e.trans hv)
    · rw [hv] at e
      injection e with e
      omega)).trans (h.gr.block i hi hne)⟩⟩
theorem step_append_rows_at {ops : Array Oper} {o : Oper} {a : Act} {W : World} {K : Act → World → Prop} {Q : Exit → Act → World → Prop} {E : Prop} (hgd : o.guard = none) (s x : Operand)
    (ho : o.op = .call { callee := .builtin .append, args := #[s, x], argTypes := #[26, 26] })
    (base B m n c : Nat) (w0 : World) (v : Value) (ad : Addr) (xs news : List Value) (hs : a.eval s = v) (hx : a.eval x = .slice (some ad) n c) (hown : W.ownsRow base 24 1 v m xs) (hr : Reads W B (some ad) n news) (h1 : ∀ u ∈ news, u.oneCell' = true)
    (hm : m ≤ 1099511627776) (hn : n ≤ 1099511627776) (hb : Below base w0 W) (hbase : base ≤ W.heap.size)
    (hK : ∀ v' w', w'.ownsRow base 24 1 v' (m + n) (xs ++ news) → Below base w0 w' → W.grownBy w' v.ownBlock → (v' = .slice none 0 0 → v = .slice none 0 0) → (v'.ownBlock = v.ownBlock ∨ v'.ownBlock = some W.heap.size) → K (a.put o.dst v') w') :
    if Region.wanted o (yielded ops a.tmps) = true then Oper.wp Tryz.prog o a W K Q else E := by
  have hw : Region.wanted o (yielded ops a.tmps) = true := by simp [Region.wanted, hgd]
  rw [if_pos hw]
  obtain ⟨i0, hi, hz0, hz1, hz2⟩ := info_parts rowsInfo1
  obtain ⟨v', w', hrun, h2, h3, h4, h5⟩ := run_append_own_at (P := Tryz.prog) W base 26 o.type 24 i0 (.slice none 0 0) 1 24 Tryz.underlying26 hi hz0 hz1 hz2 rfl (by decide) v m xs hown ad n c news (by rw [hr.1]; omega) (fun j u hu => by
    have hj : j < n := by have := (List.getElem?_eq_some_iff.1 hu).1; have := hr.1; omega
    obtain ⟨ad', he, _, hc⟩ := hr.2 (by omega)
    injection he with he
    subst he
    exact hc j u hu) h1 (by unfold maxLen; omega) (by omega) hbase
  unfold Oper.wp execOp
  simp only [ho, resolve, invoke, builtin, Sem.run_bind, Sem.run_pure, Result.andThen_ok, List.map_toArray, List.map_cons, List.map_nil, hs, hx, hrun]
  exact hK _ _ h2 (hb.grown h3 hbase (fun k hk => (hown.lt k hk).1)) h3 (fun e => (h4.1 e).1) h5
def PutEndsG (w : World) (B g : Nat) (zss : List (List Int)) (e : Ending) (w' : World) : Prop := ∃ v', e = .returned v' ∧ PutS w' B v' zss ∧ Below B w w' ∧ KG g w w' ∧ (v'.ownBlock = some g ∨ ∃ k, v'.ownBlock = some k ∧ w.heap.size ≤ k)

set_option maxHeartbeats 1600000 in
theorem l3putg_any (B : Nat) (zss : List (List Int)) (g n cap : Nat) (A : Option Addr) (m c B' : Nat) (p : List Int) (w : World) (hS : IntsS w B (.slice (some ⟨g, 0, none⟩) n cap) zss) (hp : Arg w B' A m c p) (hB : B ≤ w.heap.size)
    (hall : ∀ z ∈ zss, isP z = true) (hn : n ≤ 1048576) :
    Calls Tryz.prog 79 #[.slice (some ⟨g, 0, none⟩) n cap, .slice A m c] w (PutEndsG w B g (putL zss p)) := by
  have hl := hS.len
  have HL := hide hl
  have HALL := hide hall
  clear hl hall
  go_enter Tryz.func79, Tryz.ntmps79
  go_wp2
  go_loopw [5] (fun i wr => ∃ k : Nat, k ≤ n ∧ i = .int .i64 k ∧ Drew w wr ∧ Hid (scanL zss p n = scanL zss p k)) (fun i _ => (intOf i).toNat)
  case atStart => exact ⟨n, Nat.le_refl _, rfl, Drew.refl _, by exact rfl⟩
  case round =>
    obtain ⟨k, hk, rfl, hd, hsc⟩ := hrel
    cases k with
    | zero =>
      have hput : Hid (putL zss p = zss.take 0 ++ [p] ++ zss.drop 0) := by
        have h := unhide hsc
        rw [← unhide HL] at h
        show putL zss p = _
        unfold putL
        rw [h, scanL, if_neg (by omega)]
      have hbW := hd.below w.heap.size
      have hkw : KG g w wr := ⟨hd.keepI, grown_of_below (hd.below _) _⟩
      have hp := hp.below hbW
      have hS := hS.below hbW
      have hks : 0 ≤ n := Nat.zero_le n
      clear hsc
      obtain ⟨vs, hown, hin⟩ := hS
      rw [unhide HL] at hown
      have hgl := (hown.lt g rfl).2
      have hst := ownS0 wr wr.heap.size (Nat.le_refl _)
      have hbel := (Below.refl wr.heap.size wr).alloc (Nat.le_refl _) (.cells #[] 24)
      have hrest := ((own_rest hown hks).below hbel)
      have hones : ∀ u ∈ vs.drop (0), u.oneCell' = true := fun u hu => own_news hown hin u (List.mem_of_mem_drop hu)
      have HONES := hide hones
      go_wp2_with (at_builtin; refine wpList_append_rows rfl (.tmp 34) (.tmp 37) rfl wr.heap.size wr.heap.size 0 (n) (cap) wr _ (some ⟨g, 0, none⟩) [] (vs.drop (0)) rfl rfl hst hrest (fun h => by cases h) hones (by omega) (by omega) hbel hbel.size ?_; intro v6 w6 hown6 hb6 hg6 hnil6)
      rw [Nat.zero_add, List.nil_append] at hown6
      obtain ⟨g6, cap6, rfl, hg6l, hcap6⟩ := own_shape hown6 (fun h => by cases hnil6 h)
      have hA6 := hp.below hb6
      have hst6 := own0 w6 w6.heap.size (Nat.le_refl _)
      have hbel6 := (Below.refl w6.heap.size w6).alloc (Nat.le_refl _) (.cells #[] 3)
      have hA7 := (hA6.below hbel6).drew
      have hs6 := hbel6.size
      have hown7 := own_below hown hb6
      have hin7 := hin.keepI (KeepI.of_below hb6)
      have hkw6 := hkw.more hb6
      have hbw6 := (hbW.mono hB).trans (hb6.mono (Nat.le_trans hB hbW.size))
      clear hst hbel hrest hones hp hkw hin hown hg6 hnil6
      go_region_held3 (fun _ => True) (trivial)
        (first
         | ((refine step_append_arg (by rfl) (.tmp 42) (.tmp 43) (by rfl) w6.heap.size B' 0 m c w6 _ A [] p (by rfl) (by rfl) hst6 hA7 (by omega) hbel6.drew hs6 ?_); intro v7 w7 hw7 hb7 hg7; clear hg7;
            have hI7 : Ints w7 w6.heap.size v7 p := Ints.of_own hw7;
            obtain ⟨A7, c7, rfl⟩ := hI7.slice;
            have hone7 : ∀ u ∈ [Value.slice A7 p.length c7], u.oneCell' = true := (fun u hu => by (rw [List.mem_singleton] at hu; subst hu; rfl));
            have haw7 := hin7.away_new hI7.since (Nat.le_refl _);
            have hin8 := hin7.keepI (KeepI.of_below hb7);
            have hown8 := own_cut (own_below hown7 hb7) hks;
            have hrest8 := own_below hown6 hb7;
            have hkw8 := hkw6.more hb7;
            have hbw8 := hbw6.trans (hb7.mono (Nat.le_trans hB (Nat.le_trans hbW.size hb6.size)));
            have hsz8 : B ≤ w7.heap.size := Nat.le_trans hB (Nat.le_trans hbW.size (Nat.le_trans hb6.size hb7.size));
            have hx8 := reads_new w7 (.slice A7 p.length c7) 24;
            have hal := (Below.refl w7.heap.size w7).alloc (Nat.le_refl _) (.cells #[.slice A7 p.length c7] 24);
            clear hst6 hbel6 hA7 hs6 hown7 hown6 hin7 hkw6 hbw6 hw7 hb7)
         | ((refine step_append_rows_at (by rfl) (.tmp 41) (.tmp 45) (by rfl) B (w7.heap.size + 1) (0) 1 1 w _ ⟨w7.heap.size, 0, none⟩ (vs.take (0)) [.slice A7 p.length c7] (by rfl) (by rfl) (own_below hown8 hal) hx8 hone7 (by omega) (by omega) (hbw8.trans (hal.mono hsz8)) (Nat.le_trans hsz8 hal.size) ?_); intro v9 w9 hown9 hb9 hg9 hnil9 hat9;
            have hsw9 := Nat.le_trans hkw8.gr.size hal.size; have hk9 := (hkw8.more hal).grown (own_below hown8 hal) hg9 (.inl rfl);
            have hin9 := (hin8.keepI (KeepI.of_below hal)).keepI (KeepI.of_grown (own_below hown8 hal) hg9);
            have hI9 := (hI7.keepI (KeepI.of_below hal)).keepI (KeepI.of_grown (own_below hown8 hal) hg9);
            have hrest9 := (own_below hrest8 hal).kept hg9 (.inr (fun e => by (have e2 : g6 = g := by simpa [Value.ownBlock] using e); omega));
            have hsz9 := Nat.le_trans hsz8 (Nat.le_trans hal.size hg9.size);
            clear hown8 hrest8 hkw8 hbw8 hsz8 hx8 hal hin8 hI7 hone7 hg9)
         | ((refine step_append_rows_at (by rfl) (.tmp 46) (.tmp 47) (by rfl) B w9.heap.size (0 + 1) (n) cap6 w _ ⟨g6, 0, none⟩ (vs.take (0) ++ [.slice A7 p.length c7]) (vs.drop (0)) (by rfl) (by rfl) hown9 (Reads.of_own_at hrest9) (unhide HONES) (by omega) (by omega) hb9 hsz9 ?_); intro v10 w10 hown10 hb10 hg10 hnil10 hat10;
            have hat9' := (hat9.elim (fun h => Or.inl h) (fun h => Or.inr ⟨_, h, hsw9⟩) : v9.ownBlock = some g ∨ ∃ k, v9.ownBlock = some k ∧ w.heap.size ≤ k); have hk10 := hk9.grown hown9 hg10 hat9'; have hsv9 := hk9.gr.size; have hat10' := (hat10.elim (fun h => h ▸ hat9') (fun h => Or.inr ⟨_, h, hsv9⟩) : v10.ownBlock = some g ∨ ∃ k, v10.ownBlock = some k ∧ w.heap.size ≤ k);
            have hin10 := hin9.keepI (KeepI.of_grown hown9 hg10);
            have hI10 := hI9.keepI (KeepI.of_grown hown9 hg10);
            clear hk9 hin9 hI9 hown9 hrest9))
      have hfin : PutS w10 B v10 (putL zss p) := by
        have hz := unhide HL
        have hin := hin10.put (s := 0) (by rw [hz]; exact hks) (hI10.low (Nat.le_trans hB (Nat.le_trans hbW.size hb6.size))) haw7
        have hlen : (zss.take (0) ++ [p] ++ zss.drop (0)).length = 0 + 1 + (n) := by
          simp only [List.length_append, List.length_take, List.length_drop, List.length_singleton]
          omega
        rw [unhide hput]
        obtain ⟨g10, cap10, h10, _, _⟩ := own_shape hown10 (fun h => by cases hnil9 (hnil10 h))
        exact ⟨⟨_, by rw [hlen]; exact hown10, hin⟩, g10, cap10, by rw [hlen]; exact h10⟩
      clear hown10 hin10 hI10 hnil9 hnil10 haw7
      go_wp2
      go_ret
      exact ⟨v10, rfl, hfin, hb10, hk10, hat10'⟩
    | succ k =>
      obtain ⟨ad, A1, c1, z, he, hz, hcell, hI⟩ := (hS.below (hd.below _)).at_ (show k < n by omega)
      injection he with he
      subst he
      have hcell : wr.cell? ⟨g, k, none⟩ = some (.slice A1 z.length c1) := by
        rwa [show (⟨g, 0, none⟩ : Addr).add k = ⟨g, k, none⟩ by unfold Addr.add; split <;> simp_all] at hcell
      have hzP := unhide HALL z (List.mem_of_getElem? hz)
      have hAz := hI.argP hzP
      obtain ⟨b, hb⟩ : ∃ b, befL p z = b := ⟨_, rfl⟩
      have hpW := hp.below (hd.below _)
      have H1 := hide (l2bef_any A A1 m c B' z.length c1 wr.heap.size p z b hb wr hpW hAz)
      have hki : ((k + 1 : Nat) : Int) - 1 = (k : Int) := by omega
      cases b with
      | true =>
        have hnext := hide ((unhide hsc).trans (scanL_yes hz hb))
        clear hz hb hI hAz hsc hpW hS hp
        go_wp2_with fail
        refine (unhide H1).mono ?_
        rintro e w1 ⟨rfl, hd1⟩
        have hd2 := hd.trans hd1
        clear H1 hd hd1
        go_wp2
        go_roundw
        case rel => exact ⟨k, by omega, by go_num, hd2, hnext⟩
        case measure => simp [intOf]
      | false =>
        have hsc1 := (unhide hsc).trans (scanL_no hz hb)
        rw [← unhide HL] at hsc1
        obtain ⟨b2, hb2⟩ : ∃ b, decide (z = p) = b := ⟨_, rfl⟩
        have H2 := hide (fun w' (hb' : Below wr.heap.size wr w') => l2same_any A1 A z.length c1 wr.heap.size m c B' z p b2 hb2 w' ((hI.below hb').argP hzP |>.more (Nat.le_refl _) (Nat.le_refl _) |> fun h => ⟨hI.reads.below hb', hb'.size, h.le, h.cap, h.small, h.nil⟩) (hpW.below hb'))
        have hput : Hid (putL zss p = if b2 = true then zss else zss.take (k + 1) ++ [p] ++ zss.drop (k + 1)) := by
          show putL zss p = _
          unfold putL
          rw [hsc1, show k + 1 - 1 = k by omega, getD_of hz]
          cases b2 with
          | true => rw [if_pos ⟨by omega, of_decide_eq_true hb2⟩, if_pos rfl]
          | false => rw [if_neg (fun h => of_decide_eq_false hb2 h.2), if_neg (by simp)]
        clear hz hb hI hAz hsc hsc1 hb2 hpW
        go_wp2_with fail
        refine (unhide H1).mono ?_
        rintro e w1 ⟨rfl, hd1⟩
        have H3 := hide (unhide H2 w1 (hd1.below _))
        have hcell1 := (hd1.cell ⟨g, k, none⟩).trans hcell
        replace hd := hd.trans hd1
        clear H1 H2 hd1 hcell
        go_wp2_with fail
        refine (unhide H3).mono ?_
        rintro e w2 ⟨rfl, hd2⟩
        replace hd := hd.trans hd2
        have hbW := hd.below w.heap.size
        have hkw : KG g w w2 := ⟨hd.keepI, grown_of_below (hd.below _) _⟩
        replace hp := hp.below hbW
        replace hS := hS.below hbW
        clear H3 hd2 hcell1
        cases b2 with
        | true =>
          replace hput := hide ((unhide hput).trans (if_pos rfl))
          go_wp2
          go_ret
          rw [← unhide hput] at hS
          exact ⟨.slice (some ⟨g, 0, none⟩) n cap, rfl, ⟨hS, g, cap, by rw [hS.len]⟩, hbW.mono hB, hkw, .inl rfl⟩
        | false =>
          replace hput := hide ((unhide hput).trans (if_neg (by simp)))
          have hcn : n ≤ cap := by
            obtain ⟨vs, hown, _⟩ := hS
            rw [unhide HL] at hown
            rcases hown.2 with ⟨hv, _⟩ | ⟨g', cap', cur, hv, _, _, h3, _⟩
            · cases hv
            · injection hv with _ _ h4; omega
          by_cases hcap : cap = k + 1
          · subst hcap
            obtain rfl : n = k + 1 := by omega
            have hbd0 : (0 : Int) ≤ (k : Int) + 1 := by omega
            have hbd1 : (k : Int) + 1 ≤ ((k + 1 : Nat) : Int) := by omega
            have hks : k + 1 ≤ k + 1 := Nat.le_refl _
            obtain ⟨vs, hown, hin⟩ := hS
            rw [unhide HL] at hown
            have hgl := (hown.lt g rfl).2
            have hst := ownS0 w2 w2.heap.size (Nat.le_refl _)
            have hbel := (Below.refl w2.heap.size w2).alloc (Nat.le_refl _) (.cells #[] 24)
            have hrest : Reads (w2.alloc (.cells #[] 24)) w2.heap.size (some ⟨g, 0, none⟩) 0 (vs.drop (k + 1)) := ⟨by rw [List.length_drop]; have := hown.1; omega, fun h => by omega⟩
            have hones : ∀ u ∈ vs.drop (k + 1), u.oneCell' = true := fun u hu => own_news hown hin u (List.mem_of_mem_drop hu)
            have HONES := hide hones
            go_wp2_with (at_builtin; refine wpList_append_rows rfl (.tmp 34) (.tmp 37) rfl w2.heap.size w2.heap.size 0 (0) (0) w2 _ (some ⟨g, 0, none⟩) [] (vs.drop (k + 1)) rfl rfl hst hrest (fun h => by cases h) hones (by omega) (by omega) hbel hbel.size ?_; intro v6 w6 hown6 hb6 hg6 hnil6)
            rw [Nat.zero_add, List.nil_append] at hown6
            obtain ⟨g6, cap6, rfl, hg6l, hcap6⟩ := own_shape hown6 (fun h => by cases hnil6 h)
            have hA6 := hp.below hb6
            have hst6 := own0 w6 w6.heap.size (Nat.le_refl _)
            have hbel6 := (Below.refl w6.heap.size w6).alloc (Nat.le_refl _) (.cells #[] 3)
            have hA7 := (hA6.below hbel6).drew
            have hs6 := hbel6.size
            have hown7 := own_below hown hb6
            have hin7 := hin.keepI (KeepI.of_below hb6)
            have hkw6 := hkw.more hb6
            have hbw6 := (hbW.mono hB).trans (hb6.mono (Nat.le_trans hB hbW.size))
            clear hst hbel hrest hones hp hkw hin hown hg6 hnil6
            go_region_held3 (fun _ => True) (trivial)
              (first
               | ((refine step_append_arg (by rfl) (.tmp 42) (.tmp 43) (by rfl) w6.heap.size B' 0 m c w6 _ A [] p (by rfl) (by rfl) hst6 hA7 (by omega) hbel6.drew hs6 ?_); intro v7 w7 hw7 hb7 hg7; clear hg7;
                  have hI7 : Ints w7 w6.heap.size v7 p := Ints.of_own hw7;
                  obtain ⟨A7, c7, rfl⟩ := hI7.slice;
                  have hone7 : ∀ u ∈ [Value.slice A7 p.length c7], u.oneCell' = true := (fun u hu => by (rw [List.mem_singleton] at hu; subst hu; rfl));
                  have haw7 := hin7.away_new hI7.since (Nat.le_refl _);
                  have hin8 := hin7.keepI (KeepI.of_below hb7);
                  have hown8 := own_cut (own_below hown7 hb7) hks;
                  have hrest8 := own_below hown6 hb7;
                  have hkw8 := hkw6.more hb7;
                  have hbw8 := hbw6.trans (hb7.mono (Nat.le_trans hB (Nat.le_trans hbW.size hb6.size)));
                  have hsz8 : B ≤ w7.heap.size := Nat.le_trans hB (Nat.le_trans hbW.size (Nat.le_trans hb6.size hb7.size));
                  have hx8 := reads_new w7 (.slice A7 p.length c7) 24;
                  have hal := (Below.refl w7.heap.size w7).alloc (Nat.le_refl _) (.cells #[.slice A7 p.length c7] 24);
                  clear hst6 hbel6 hA7 hs6 hown7 hown6 hin7 hkw6 hbw6 hw7 hb7)
               | ((refine step_append_rows_at (by rfl) (.tmp 41) (.tmp 45) (by rfl) B (w7.heap.size + 1) (k + 1) 1 1 w _ ⟨w7.heap.size, 0, none⟩ (vs.take (k + 1)) [.slice A7 p.length c7] (by rfl) (by rfl) (own_below hown8 hal) hx8 hone7 (by omega) (by omega) (hbw8.trans (hal.mono hsz8)) (Nat.le_trans hsz8 hal.size) ?_); intro v9 w9 hown9 hb9 hg9 hnil9 hat9;
                  have hsw9 := Nat.le_trans hkw8.gr.size hal.size; have hk9 := (hkw8.more hal).grown (own_below hown8 hal) hg9 (.inl rfl);
                  have hin9 := (hin8.keepI (KeepI.of_below hal)).keepI (KeepI.of_grown (own_below hown8 hal) hg9);
                  have hI9 := (hI7.keepI (KeepI.of_below hal)).keepI (KeepI.of_grown (own_below hown8 hal) hg9);
                  have hrest9 := (own_below hrest8 hal).kept hg9 (.inr (fun e => by (have e2 : g6 = g := by simpa [Value.ownBlock] using e); omega));
                  have hsz9 := Nat.le_trans hsz8 (Nat.le_trans hal.size hg9.size);
                  clear hown8 hrest8 hkw8 hbw8 hsz8 hx8 hal hin8 hI7 hone7 hg9)
               | ((refine step_append_rows_at (by rfl) (.tmp 46) (.tmp 47) (by rfl) B w9.heap.size (k + 1 + 1) (0) cap6 w _ ⟨g6, 0, none⟩ (vs.take (k + 1) ++ [.slice A7 p.length c7]) (vs.drop (k + 1)) (by rfl) (by rfl) hown9 (Reads.of_own_at hrest9) (unhide HONES) (by omega) (by omega) hb9 hsz9 ?_); intro v10 w10 hown10 hb10 hg10 hnil10 hat10;
                  have hat9' := (hat9.elim (fun h => Or.inl h) (fun h => Or.inr ⟨_, h, hsw9⟩) : v9.ownBlock = some g ∨ ∃ k, v9.ownBlock = some k ∧ w.heap.size ≤ k); have hk10 := hk9.grown hown9 hg10 hat9'; have hsv9 := hk9.gr.size; have hat10' := (hat10.elim (fun h => h ▸ hat9') (fun h => Or.inr ⟨_, h, hsv9⟩) : v10.ownBlock = some g ∨ ∃ k, v10.ownBlock = some k ∧ w.heap.size ≤ k);
                  have hin10 := hin9.keepI (KeepI.of_grown hown9 hg10);
                  have hI10 := hI9.keepI (KeepI.of_grown hown9 hg10);
                  clear hk9 hin9 hI9 hown9 hrest9))
            have hfin : PutS w10 B v10 (putL zss p) := by
              have hz := unhide HL
              have hin := hin10.put (s := k + 1) (by rw [hz]; exact hks) (hI10.low (Nat.le_trans hB (Nat.le_trans hbW.size hb6.size))) haw7
              have hlen : (zss.take (k + 1) ++ [p] ++ zss.drop (k + 1)).length = k + 1 + 1 + (0) := by
                simp only [List.length_append, List.length_take, List.length_drop, List.length_singleton]
                omega
              rw [unhide hput]
              obtain ⟨g10, cap10, h10, _, _⟩ := own_shape hown10 (fun h => by cases hnil9 (hnil10 h))
              exact ⟨⟨_, by rw [hlen]; exact hown10, hin⟩, g10, cap10, by rw [hlen]; exact h10⟩
            clear hown10 hin10 hI10 hnil9 hnil10 haw7
            go_wp2
            go_ret
            exact ⟨v10, rfl, hfin, hb10, hk10, hat10'⟩
          · have hbd0 : (0 : Int) ≤ (k : Int) + 1 := by omega
            have hbd1 : (k : Int) + 1 ≤ (cap : Int) := by omega
            have hks : k + 1 ≤ n := hk
            clear hcn
            obtain ⟨vs, hown, hin⟩ := hS
            rw [unhide HL] at hown
            have hgl := (hown.lt g rfl).2
            have hst := ownS0 w2 w2.heap.size (Nat.le_refl _)
            have hbel := (Below.refl w2.heap.size w2).alloc (Nat.le_refl _) (.cells #[] 24)
            have hrest := ((own_rest hown hks).below hbel)
            have hones : ∀ u ∈ vs.drop (k + 1), u.oneCell' = true := fun u hu => own_news hown hin u (List.mem_of_mem_drop hu)
            have HONES := hide hones
            go_wp2_with (at_builtin; refine wpList_append_rows rfl (.tmp 34) (.tmp 37) rfl w2.heap.size w2.heap.size 0 (n - (k + 1)) (cap - (k + 1)) w2 _ (some ⟨g, k + 1, none⟩) [] (vs.drop (k + 1)) rfl rfl hst hrest (fun h => by cases h) hones (by omega) (by omega) hbel hbel.size ?_; intro v6 w6 hown6 hb6 hg6 hnil6)
            rw [Nat.zero_add, List.nil_append] at hown6
            obtain ⟨g6, cap6, rfl, hg6l, hcap6⟩ := own_shape hown6 (fun h => by cases hnil6 h)
            have hA6 := hp.below hb6
            have hst6 := own0 w6 w6.heap.size (Nat.le_refl _)
            have hbel6 := (Below.refl w6.heap.size w6).alloc (Nat.le_refl _) (.cells #[] 3)
            have hA7 := (hA6.below hbel6).drew
            have hs6 := hbel6.size
            have hown7 := own_below hown hb6
            have hin7 := hin.keepI (KeepI.of_below hb6)
            have hkw6 := hkw.more hb6
            have hbw6 := (hbW.mono hB).trans (hb6.mono (Nat.le_trans hB hbW.size))
            clear hst hbel hrest hones hp hkw hin hown hg6 hnil6
            go_region_held3 (fun _ => True) (trivial)
              (first
               | ((refine step_append_arg (by rfl) (.tmp 42) (.tmp 43) (by rfl) w6.heap.size B' 0 m c w6 _ A [] p (by rfl) (by rfl) hst6 hA7 (by omega) hbel6.drew hs6 ?_); intro v7 w7 hw7 hb7 hg7; clear hg7;
                  have hI7 : Ints w7 w6.heap.size v7 p := Ints.of_own hw7;
                  obtain ⟨A7, c7, rfl⟩ := hI7.slice;
                  have hone7 : ∀ u ∈ [Value.slice A7 p.length c7], u.oneCell' = true := (fun u hu => by (rw [List.mem_singleton] at hu; subst hu; rfl));
                  have haw7 := hin7.away_new hI7.since (Nat.le_refl _);
                  have hin8 := hin7.keepI (KeepI.of_below hb7);
                  have hown8 := own_cut (own_below hown7 hb7) hks;
                  have hrest8 := own_below hown6 hb7;
                  have hkw8 := hkw6.more hb7;
                  have hbw8 := hbw6.trans (hb7.mono (Nat.le_trans hB (Nat.le_trans hbW.size hb6.size)));
                  have hsz8 : B ≤ w7.heap.size := Nat.le_trans hB (Nat.le_trans hbW.size (Nat.le_trans hb6.size hb7.size));
                  have hx8 := reads_new w7 (.slice A7 p.length c7) 24;
                  have hal := (Below.refl w7.heap.size w7).alloc (Nat.le_refl _) (.cells #[.slice A7 p.length c7] 24);
                  clear hst6 hbel6 hA7 hs6 hown7 hown6 hin7 hkw6 hbw6 hw7 hb7)
               | ((refine step_append_rows_at (by rfl) (.tmp 41) (.tmp 45) (by rfl) B (w7.heap.size + 1) (k + 1) 1 1 w _ ⟨w7.heap.size, 0, none⟩ (vs.take (k + 1)) [.slice A7 p.length c7] (by rfl) (by rfl) (own_below hown8 hal) hx8 hone7 (by omega) (by omega) (hbw8.trans (hal.mono hsz8)) (Nat.le_trans hsz8 hal.size) ?_); intro v9 w9 hown9 hb9 hg9 hnil9 hat9;
                  have hsw9 := Nat.le_trans hkw8.gr.size hal.size; have hk9 := (hkw8.more hal).grown (own_below hown8 hal) hg9 (.inl rfl);
                  have hin9 := (hin8.keepI (KeepI.of_below hal)).keepI (KeepI.of_grown (own_below hown8 hal) hg9);
                  have hI9 := (hI7.keepI (KeepI.of_below hal)).keepI (KeepI.of_grown (own_below hown8 hal) hg9);
                  have hrest9 := (own_below hrest8 hal).kept hg9 (.inr (fun e => by (have e2 : g6 = g := by simpa [Value.ownBlock] using e); omega));
                  have hsz9 := Nat.le_trans hsz8 (Nat.le_trans hal.size hg9.size);
                  clear hown8 hrest8 hkw8 hbw8 hsz8 hx8 hal hin8 hI7 hone7 hg9)
               | ((refine step_append_rows_at (by rfl) (.tmp 46) (.tmp 47) (by rfl) B w9.heap.size (k + 1 + 1) (n - (k + 1)) cap6 w _ ⟨g6, 0, none⟩ (vs.take (k + 1) ++ [.slice A7 p.length c7]) (vs.drop (k + 1)) (by rfl) (by rfl) hown9 (Reads.of_own_at hrest9) (unhide HONES) (by omega) (by omega) hb9 hsz9 ?_); intro v10 w10 hown10 hb10 hg10 hnil10 hat10;
                  have hat9' := (hat9.elim (fun h => Or.inl h) (fun h => Or.inr ⟨_, h, hsw9⟩) : v9.ownBlock = some g ∨ ∃ k, v9.ownBlock = some k ∧ w.heap.size ≤ k); have hk10 := hk9.grown hown9 hg10 hat9'; have hsv9 := hk9.gr.size; have hat10' := (hat10.elim (fun h => h ▸ hat9') (fun h => Or.inr ⟨_, h, hsv9⟩) : v10.ownBlock = some g ∨ ∃ k, v10.ownBlock = some k ∧ w.heap.size ≤ k);
                  have hin10 := hin9.keepI (KeepI.of_grown hown9 hg10);
                  have hI10 := hI9.keepI (KeepI.of_grown hown9 hg10);
                  clear hk9 hin9 hI9 hown9 hrest9))
            have hfin : PutS w10 B v10 (putL zss p) := by
              have hz := unhide HL
              have hin := hin10.put (s := k + 1) (by rw [hz]; exact hks) (hI10.low (Nat.le_trans hB (Nat.le_trans hbW.size hb6.size))) haw7
              have hlen : (zss.take (k + 1) ++ [p] ++ zss.drop (k + 1)).length = k + 1 + 1 + (n - (k + 1)) := by
                simp only [List.length_append, List.length_take, List.length_drop, List.length_singleton]
                omega
              rw [unhide hput]
              obtain ⟨g10, cap10, h10, _, _⟩ := own_shape hown10 (fun h => by cases hnil9 (hnil10 h))
              exact ⟨⟨_, by rw [hlen]; exact hown10, hin⟩, g10, cap10, by rw [hlen]; exact h10⟩
            clear hown10 hin10 hI10 hnil9 hnil10 haw7
            go_wp2
            go_ret
            exact ⟨v10, rfl, hfin, hb10, hk10, hat10'⟩
end Go.Proofs.YtinnlhfdgbeibaaGreat


/-
  spec.l6Roots, spec.RootsIn, by their contracts.
-/

namespace Go.Proofs.YtinnlhfdgbeibaaGreat
set_option maxRecDepth 100000
open Go.RowKit

theorem fold_len : ∀ (l a : List (List Int)), (l.foldl putL a).length ≤ a.length + l.length
  | [], a => by simp
  | p :: l, a => by
    have h1 := fold_len l (putL a p)
    have h2 := (putL_len a p).2
    rw [List.foldl_cons, List.length_cons]; omega
theorem fold_mem : ∀ (l a : List (List Int)) (x : List Int), x ∈ l.foldl putL a → x ∈ a ∨ x ∈ l
  | [], a, x, h => .inl h
  | p :: l, a, x, h => by
    rcases fold_mem l (putL a p) x h with h | h
    · rcases mem_putL.1 h with h | rfl
      · exact .inl h
      · exact .inr (by simp)
    · exact .inr (List.mem_cons_of_mem _ h)
theorem KG.refl (g : Nat) (w : World) : KG g w w := ⟨KeepI.refl w, World.grownBy.refl w _⟩
theorem KG.step {g k : Nat} {w a b : World} (h : KG g w a) (h2 : KG k a b) (hk : k = g ∨ w.heap.size ≤ k) : KG g w b :=
  ⟨h.keep.trans h2.keep, ⟨h2.gr.os.trans h.gr.os, h2.gr.tape.trans h.gr.tape, h2.gr.output.trans h.gr.output, Nat.le_trans h.gr.size h2.gr.size, fun i hi hne => (h2.gr.block i (Nat.lt_of_lt_of_le hi h.gr.size) (fun e => by
    injection e with e
    rcases hk with rfl | hk
    · exact hne (by rw [e])
    · omega)).trans (h.gr.block i hi hne)⟩⟩
theorem IntsS.aloof {w w' : World} {B g : Nat} {v : Value} {zss : List (List Int)} (h : IntsS w B v zss) (hk : KG g w w') (hne : v.ownBlock = none ∨ v.ownBlock ≠ some g) : IntsS w' B v zss := by
  obtain ⟨vs, h1, h2⟩ := h
  exact ⟨vs, h1.kept hk.gr hne, h2.keepI hk.keep⟩
/-- The list of roots so far. -/
def soFar (m : Nat) (p : List Int) (R zss : List (List Int)) (j : Nat) : List (List Int) := (rtsK m p R j).foldl putL zss
theorem soFar_step {m j : Nat} {p z : List Int} {R zss : List (List Int)} (h : R[j]? = some z) : soFar m p R zss (j + 1) = (rtsF m z).foldl putL (soFar m p R zss j) := by
  unfold soFar
  rw [rtsK_step h, List.foldl_append]

set_option maxHeartbeats 1600000 in
theorem sl6roots_any : ∀ (m : Nat) (A : Option Addr) (n c B' : Nat) (zs : List Int) (B g k cap : Nat) (zss : List (List Int)) (w : World) (_ : Arg w B' A n c zs) (_ : isP zs = true) (_ : n ≤ m + 1) (_ : m ≤ 1000)
    (_ : IntsS w B (.slice (some ⟨g, 0, none⟩) k cap) zss) (_ : B ≤ w.heap.size) (_ : ∀ z ∈ zss, isP z = true) (_ : zss.length + (rtsF m zs).length ≤ 1048576),
    Calls Tryz.prog 49 #[.slice A n c, .slice (some ⟨g, 0, none⟩) k cap] w (PutEndsG w B g ((rtsF m zs).foldl putL zss)) := by
  intro m
  induction m with
  | zero =>
    intro A n c B' zs B g k cap zss w h hp hn hm hS hB hall hlen
    have hl := h.len
    have hlow : (n : Int) < 2 := by omega
    have hk := hS.len
    rw [rtsF_low (by omega)]
    clear h hp hl hn hall hlen
    go_enter Tryz.func49, Tryz.ntmps49
    go_wp2
    go_ret
    exact ⟨.slice (some ⟨g, 0, none⟩) k cap, rfl, ⟨hS, g, cap, by rw [List.foldl_nil, hk]⟩, Below.refl _ _, KG.refl _ _, .inl rfl⟩
  | succ m ih =>
    intro A n c B' zs B g k cap zss w h hp hn hm hS hB hall hlen
    have hl := h.len
    by_cases h2 : n < 2
    · have hlow : (n : Int) < 2 := by omega
      have hk := hS.len
      rw [rtsF_low (by omega)]
      clear h hp hl hn hall hlen
      go_enter Tryz.func49, Tryz.ntmps49
      go_wp2
      go_ret
      exact ⟨.slice (some ⟨g, 0, none⟩) k cap, rfl, ⟨hS, g, cap, by rw [List.foldl_nil, hk]⟩, Below.refl _ _, KG.refl _ _, .inl rfl⟩
    · have hlow : ¬ (n : Int) < 2 := by omega
      have H0 := hide (l6split_any A n c B' zs w h hp (by omega))
      have hroot := rootP_isP hp
      have HP := hide (fun z hz => pcsP_at hp z hz)
      have hpc := pcsP_len hp
      have h8 := isP_le hp
      rw [rtsF_many (by omega), List.length_cons] at hlen
      have HE : Hid ((rtsF (m + 1) zs).foldl putL zss = soFar m zs (pcsP zs) zss (pcsP zs).length) := hide (by unfold soFar; rw [rtsF_many (by omega), rtsK_all])
      have hfs : ∀ j, (soFar m zs (pcsP zs) zss j).length ≤ zss.length + 1 + (((pcsP zs).take j).flatMap (rtsF m)).length := fun j => by
        have := fold_len (rtsK m zs (pcsP zs) j) zss
        unfold soFar
        unfold rtsK at this ⊢
        rw [List.length_cons] at this
        omega
      have HALL := hide (fun j z (hz : z ∈ soFar m zs (pcsP zs) zss j) => show isP z = true from by
        rcases fold_mem _ _ _ hz with h | h
        · exact hall z h
        · rcases List.mem_cons.1 h with rfl | h
          · exact hroot
          · obtain ⟨y, hy, h⟩ := List.mem_flatMap.1 h
            exact rtsF_all m (pcsP_at hp y (List.mem_of_mem_take hy)).1 z h)
      have HLEN := hide (fun j z (hz : (pcsP zs)[j]? = some z) => show (soFar m zs (pcsP zs) zss j).length + (rtsF m z).length ≤ 1048576 from by
        have h1 := hfs j
        have h3 := flat_take_len (m := m) (k := j + 1) (R := pcsP zs)
        rw [List.take_add_one, hz] at h3
        simp only [Option.toList_some, List.flatMap_append, List.flatMap_cons, List.flatMap_nil, List.append_nil, List.length_append] at h3
        omega)
      have H1 := hide (fun (w' : World) A3 c3 b3 (hr : Arg w' b3 A3 (rootP zs).length c3 (rootP zs)) (hS' : IntsS w' B (.slice (some ⟨g, 0, none⟩) k cap) zss) (hB' : B ≤ w'.heap.size) => l3putg_any B zss g k cap A3 (rootP zs).length c3 b3 (rootP zs) w' hS' hr hB' hall (by have := hS.len; omega))
      have HZ : Hid (soFar m zs (pcsP zs) zss 0 = putL zss (rootP zs)) := hide (by simp [soFar, rtsK])
      have hgl : g < w.heap.size := by
        obtain ⟨vs, hown, _⟩ := hS
        exact (hown.lt g rfl).2
      obtain ⟨R, hR⟩ : ∃ R, pcsP zs = R := ⟨_, rfl⟩
      rw [hR] at H0 HP hpc HALL HLEN HZ HE
      obtain ⟨r, hr⟩ : ∃ r, rootP zs = r := ⟨_, rfl⟩
      rw [hr] at H0 H1 HZ hroot
      rw [unhide HE]
      have HRT := hide hroot
      have HL := hide hl
      clear hR hr hlen hfs h hp hl hall hroot HE
      go_enter Tryz.func49, Tryz.ntmps49
      go_wp2_with fail
      refine (unhide H0).mono ?_
      rintro e w2 ⟨A3, c3, A4, c4, rfl, hIn, hb2⟩
      have hal := (Below.refl _ w2).alloc (Nat.le_refl _) (.cells #[.slice A3 r.length c3, .slice A4 R.length c4] 28)
      have hb3 := below_after hb2 hal
      have hW := Whole.new w2 28 #[.slice A3 r.length c3, .slice A4 R.length c4]
      have hI3 := hIn.below hal
      have HA := hide (hI3.row.argP (unhide HRT))
      have hP3 := hI3.pcs.intsS
      have hun : Until w2.heap.size (.slice A4 R.length c4) := by
        obtain ⟨vs, hown, _⟩ := hIn.pcs.intsS
        exact fun q hq => (hown.lt q hq).2
      have hsz2 := hb2.size
      have H2 := hide (unhide H1 _ _ _ _ (unhide HA) (hS.below hb3) (by simp; omega))
      clear H0 H1 HA hIn hI3 hb2 hal hS
      go_wp2_with fail
      refine (unhide H2).mono ?_
      rintro e w4 ⟨v4, rfl, hS4, hb4, hk4, hat4⟩
      simp only [World.size_alloc] at hat4
      have hW4 := hW.grown hk4.gr (fun e => by injection e with e; omega)
      have hP4 := hP3.aloof hk4 (by
        cases hq : (Value.slice A4 R.length c4).ownBlock with
        | none => exact .inl rfl
        | some q =>
          obtain ⟨vs, hown, _⟩ := hP3
          have := (hown.lt q hq).1
          exact .inr (fun e => by injection e with e; omega))
      have hb5 := (hb3.mono hB).trans hb4
      have hk5 : KG g w w4 := (KG.more (KG.refl g w) hb3).step hk4 (.inl rfl)
      rw [← unhide HZ] at hS4
      have HC := hide (And.intro hb5 (And.intro hk5 (And.intro hW4 hP4)))
      clear H2 HZ hb3 hW hP3 hb4 hk4 hW4 hP4 hb5 hk5
      have q1 := (unhide HC).2.2.1.cell 1
      simp only [List.getElem?_toArray, List.getElem?_cons_zero, List.getElem?_cons_succ] at q1
      go_wp2
      go_loopw [1, 6] (fun v i wr => ∃ j : Nat, j ≤ R.length ∧ i = .int .i64 j ∧ PutS wr B v (soFar m zs R zss j) ∧ (v.ownBlock = some g ∨ ∃ b, v.ownBlock = some b ∧ w2.heap.size + 1 ≤ b) ∧ Hid (Below B w wr ∧ KG g w wr ∧ Whole wr w2.heap.size 28 #[.slice A3 r.length c3, .slice A4 R.length c4] ∧ IntsS wr w.heap.size (.slice A4 R.length c4) R)) (fun _ i _ => R.length - (intOf i).toNat)
      case atStart => exact ⟨0, Nat.zero_le _, rfl, hS4, hat4, HC⟩
      case round =>
        obtain ⟨j, hj, rfl, hSr, hatr, HCr⟩ := hrel
        clear hS4 hat4 HC q1
        have q1 := (unhide HCr).2.2.1.cell 1
        have l1 := (unhide HCr).2.2.1.lt
        simp only [List.getElem?_toArray, List.getElem?_cons_zero, List.getElem?_cons_succ] at q1
        obtain ⟨gk, capk, rfl⟩ := hSr.2
        have hgk : gk = g ∨ w2.heap.size + 1 ≤ gk := by
          rcases hatr with h | ⟨b, h, hb⟩
          · exact .inl (by simpa [Value.ownBlock] using h)
          · have h : gk = b := by simpa [Value.ownBlock] using h
            omega
        by_cases hlt : j < R.length
        · obtain ⟨ad, A1, c1, z, rfl, hz, hcell, hIz⟩ := (unhide HCr).2.2.2.at_ hlt
          have hzp := unhide HP z (List.mem_of_getElem? hz)
          have hz1 : z.length ≤ m + 1 := by have := hzp.2.2.2 (by rw [unhide HL]; omega); rw [unhide HL] at this; omega
          have HI := hide (ih A1 z.length c1 _ z B gk (soFar m zs R zss j).length capk (soFar m zs R zss j) wr (hIz.argP hzp.1) hzp.1 hz1 (by omega) hSr.1 (Nat.le_trans hB (unhide HCr).2.1.gr.size) (unhide HALL j) (unhide HLEN j z hz))
          rw [← soFar_step hz] at HI
          clear hz hIz hzp hz1 hSr hatr
          go_wp2_with fail
          refine (unhide HI).mono ?_
          rintro e w5 ⟨v5, rfl, hS5, hb5, hk5, hat5⟩
          obtain ⟨x1, x2, x3, x4⟩ := unhide HCr
          have y1 := x1.trans hb5
          have y2 := x2.step hk5 (by omega)
          have y3 := x3.grown hk5.gr (fun e => by injection e with e; omega)
          have y4 := x4.aloof hk5 (by
            cases hq : (Value.slice (some ad) R.length c4).ownBlock with
            | none => exact .inl rfl
            | some q =>
              have h1 := hun q hq
              obtain ⟨vs, hown, _⟩ := x4
              have h2 := (hown.lt q hq).1
              exact .inr (fun e => by injection e with e; omega))
          have y5 : v5.ownBlock = some g ∨ ∃ b, v5.ownBlock = some b ∧ w2.heap.size + 1 ≤ b := by
            rcases hat5 with h | ⟨b, h, hb⟩
            · rcases hgk with rfl | hgk
              · exact .inl h
              · exact .inr ⟨gk, h, hgk⟩
            · exact .inr ⟨b, h, by omega⟩
          have HC5 := hide (And.intro y1 (And.intro y2 (And.intro y3 y4)))
          clear HI hb5 hk5 hat5 x1 x2 x3 x4 y1 y2 y3 y4 HCr q1 l1 hcell
          go_wp2
          go_roundw
          case rel => exact ⟨j + 1, by omega, by go_num, hS5, y5, HC5⟩
          case measure => simp [intOf]; omega
        · obtain rfl : R.length = j := by omega
          obtain ⟨x1, x2, x3, x4⟩ := unhide HCr
          have hat : (Value.slice (some ⟨gk, 0, none⟩) (soFar m zs R zss R.length).length capk).ownBlock = some g ∨ ∃ k, (Value.slice (some ⟨gk, 0, none⟩) (soFar m zs R zss R.length).length capk).ownBlock = some k ∧ w.heap.size ≤ k := by
            rcases hatr with h | ⟨b, h, hb⟩
            · exact .inl h
            · exact .inr ⟨b, h, by omega⟩
          clear x3 x4 HCr hatr
          go_wp2
          go_ret
          exact ⟨_, rfl, hSr, x1, x2, hat⟩

set_option maxHeartbeats 800000 in
theorem sroots_any (A : Option Addr) (n c B : Nat) (zs : List Int) (w : World) (h : Arg w B A n c zs) :
    Calls Tryz.prog 18 #[.slice A n c] w (GivesSS w (rtsR zs)) := by
  have hl := h.len
  obtain ⟨b, hb⟩ : ∃ b, isP zs = b := ⟨_, rfl⟩
  have H0 := hide (sisperm_any A n c B zs b hb w h.reads h.le h.cap)
  cases b with
  | false =>
    rw [rtsR_no (splitOK_no1 hb)]
    clear hb h hl
    go_enter Tryz.func18, Tryz.ntmps18
    go_wp2_with fail
    refine (unhide H0).mono ?_
    rintro e w1 ⟨rfl, hd⟩
    have hb1 := hd.below w.heap.size
    clear hd H0
    have hm := IntsS.made0 w1 w.heap.size hb1.size
    go_wp2
    go_ret
    exact GivesSS.mk hm (hb1.alloc hb1.size _)
  | true =>
    have h8 := isP_le hb
    have HR : Hid ((rtsF 7 zs).foldl putL [] = rtsR zs) := hide (by
      cases hs : splitOK zs with
      | true => rw [rtsR_yes hs]
      | false =>
        have : ¬ 0 < zs.length := fun h0 => by rw [splitOK_yes hb h0] at hs; cases hs
        rw [rtsR_no hs, rtsF_low (by omega)]; rfl)
    have hle := rtsF_le (m := 7) hb
    have H1 := hide (fun (w' : World) (hb' : Below w.heap.size w w') => sl6roots_any 7 A n c B zs w.heap.size w'.heap.size 0 0 [] (w'.alloc (.cells #[] 24)) ((h.below hb').below ((Below.refl _ _).alloc (Nat.le_refl _) _)) hb (by omega) (by omega) (IntsS.made0 w' w.heap.size hb'.size) (by have := hb'.size; simp; omega) (fun z hz => by cases hz) (by simp only [List.length_nil]; omega))
    clear hb h hl h8 hle
    go_enter Tryz.func18, Tryz.ntmps18
    go_wp2_with fail
    refine (unhide H0).mono ?_
    rintro e w1 ⟨rfl, hd⟩
    have hb1 := hd.below w.heap.size
    have H2 := hide (unhide H1 w1 hb1)
    clear hd H0 H1
    go_wp2_with fail
    refine (unhide H2).mono ?_
    rintro e w2 ⟨v, rfl, hS, hb2, _, _⟩
    rw [unhide HR] at hS
    clear H2
    go_wp2
    go_ret
    exact GivesSS.mk hS.1 ((hb1.alloc hb1.size _).trans hb2)
end Go.Proofs.YtinnlhfdgbeibaaGreat
