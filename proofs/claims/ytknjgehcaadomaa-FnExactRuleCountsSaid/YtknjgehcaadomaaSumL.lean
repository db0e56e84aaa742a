
/-
  PLAIN: the parts of a sum, joined, are the sum; no permutation is a sum and a skew sum; parts of a sum of two.
-/
import Derived.Test.YtknjgehcaadomaaSumM
namespace Go.Proofs.Ytknjgehcaadomaa
set_option maxRecDepth 100000

theorem most_from : ∀ (l : List Int) (a : Int), a ≤ l.foldl max a ∧ (∀ x ∈ l, x ≤ l.foldl max a) ∧ (l.foldl max a = a ∨ l.foldl max a ∈ l)
  | [], a => ⟨Int.le_refl _, fun x hx => by simp at hx, .inl rfl⟩
  | y :: l, a => by
    obtain ⟨h1, h2, h3⟩ := most_from l (max a y)
    rw [List.foldl_cons]
    refine ⟨by omega, fun x hx => ?_, ?_⟩
    · rcases List.mem_cons.1 hx with rfl | hx
      · omega
      · exact h2 x hx
    · rcases h3 with h3 | h3
      · by_cases h : a ≤ y
        · right; rw [h3, show max a y = y by omega]; simp
        · left; rw [h3]; omega
      · exact .inr (List.mem_cons_of_mem _ h3)
theorem le_most {l : List Int} {x : Int} (h : x ∈ l) : x ≤ most l := (most_from l 0).2.1 x h
theorem most_mem {l : List Int} : most l = 0 ∨ most l ∈ l := (most_from l 0).2.2
theorem most_isP {p : List Int} (h : isP p = true) : most p = p.length := by
  obtain ⟨_, hr, hn⟩ := isP_true.1 h
  have h1 : most p ≤ p.length := by
    rcases most_mem (l := p) with e | e
    · omega
    · exact (hr _ e).2
  by_cases h0 : p.length = 0
  · have := (most_from p 0).1; unfold most; unfold most at h1; omega
  · have h2 := (nodup_iff_all hr).1 hn (p.length - 1) (by omega)
    have h3 := le_most h2
    omega
/-- At a cut the numbers so far are a permutation. -/
theorem cut_isP {p : List Int} (h : isP p = true) {j : Nat} (hj : j ≤ p.length) (hc : most (p.take j) = j) : isP (p.take j) = true := by
  obtain ⟨h8, hr, hn⟩ := isP_true.1 h
  refine isP_true.2 ⟨by rw [List.length_take]; omega, fun x hx => ?_, ?_⟩
  · rw [List.length_take, Nat.min_eq_left hj]
    exact ⟨(hr x (List.mem_of_mem_take hx)).1, by rw [← hc]; exact le_most hx⟩
  · exact nodup_cut (a := 0) hn (b := j)
theorem cnt_app (a b : List Int) (v : Int) : cnt (a ++ b) v = cnt a v + cnt b v := by unfold cnt; rw [List.filter_append, List.length_append]
theorem cnt_upTo (n : Nat) (v : Int) (h1 : 1 ≤ v) (h2 : v ≤ n) : (cnt (upTo n) v : Int) = v - 1 := by
  have : ∀ k : Nat, (cnt (upTo k) v : Int) = min (v - 1) k := fun k => by
    induction k with
    | zero =>
      have : cnt (upTo 0) v = 0 := rfl
      rw [this]; omega
    | succ k ih =>
      rw [upTo_step, cnt_snoc]
      by_cases h : (k : Int) + 1 < v
      · rw [if_pos h]; omega
      · rw [if_neg h]; omega
  rw [this n]; omega
theorem perm_upTo {l : List Int} (h : isP l = true) : l.Perm (upTo l.length) := by
  obtain ⟨_, hr, hn⟩ := isP_true.1 h
  refine (List.perm_ext_iff_of_nodup hn (upTo_nodup _)).2 fun x => ⟨fun hx => mem_upTo.2 (hr x hx), fun hx => ?_⟩
  obtain ⟨h1, h2⟩ := mem_upTo.1 hx
  have := (nodup_iff_all hr).1 hn (x - 1).toNat (by omega)
  rwa [show (((x - 1).toNat : Nat) : Int) + 1 = x by omega] at this
theorem cnt_isP {l : List Int} (h : isP l = true) {v : Int} (hv : v ∈ l) : (cnt l v : Int) = v - 1 := by
  obtain ⟨h1, h2⟩ := (isP_true.1 h).2.1 v hv
  have e : cnt l v = cnt (upTo l.length) v := by unfold cnt; exact ((perm_upTo h).filter _).length_eq
  rw [e]
  exact cnt_upTo _ _ h1 h2
theorem cnt_all {l : List Int} {v : Int} (h : ∀ x ∈ l, x < v) : cnt l v = l.length := by
  unfold cnt
  rw [List.filter_eq_self.2 (fun x hx => by simpa using h x hx)]
/-- The pattern of a part, raised to where it began, is the part. -/
theorem part_back {p : List Int} (h : isP p = true) {f k : Nat} (hfk : f ≤ k) (hk : k < p.length) (hf : most (p.take f) = f) (hc : most (p.take (k + 1)) = (k : Int) + 1) :
    (patL ((p.drop f).take (k + 1 - f))).map (fun v => v + (f : Int)) = (p.drop f).take (k + 1 - f) := by
  obtain ⟨seg, hseg⟩ : ∃ seg, seg = (p.drop f).take (k + 1 - f) := ⟨_, rfl⟩
  rw [← hseg]
  have hsplit : p.take (k + 1) = p.take f ++ seg := by
    rw [hseg, ← List.drop_take, show p.take f = (p.take (k + 1)).take f by rw [List.take_take, Nat.min_eq_left (by omega)], List.take_append_drop]
  have h1 := cut_isP h (j := f) (by omega) hf
  have h2 := cut_isP h (j := k + 1) (by omega) (by rw [hc]; omega)
  have hn := (isP_true.1 h2).2.2
  rw [hsplit] at hn
  have hdis := (List.nodup_append.1 hn).2.2
  unfold patL
  rw [List.map_map]
  refine (List.map_congr_left fun v hv => ?_).trans (List.map_id _)
  simp only [Function.comp, id]
  have hv2 : v ∈ p.take (k + 1) := by rw [hsplit]; exact List.mem_append_right _ hv
  have e1 := cnt_isP h2 hv2
  rw [hsplit, cnt_app] at e1
  have hfl : (p.take f).length = f := by rw [List.length_take]; omega
  have hbig : ∀ x ∈ p.take f, x < v := fun x hx => by
    have hxf := (isP_true.1 h1).2.1 x hx
    rw [hfl] at hxf
    have hvpos := ((isP_true.1 h2).2.1 v hv2).1
    by_cases hvf : v ≤ (f : Int)
    · have hin := (nodup_iff_all (isP_true.1 h1).2.1).1 (isP_true.1 h1).2.2 (v - 1).toNat (by rw [hfl]; omega)
      rw [show (((v - 1).toNat : Nat) : Int) + 1 = v by omega] at hin
      exact absurd rfl (hdis v hin v hv)
    · omega
  rw [cnt_all hbig, hfl] at e1
  omega
theorem prt_cut {p : List Int} (h : isP p = true) : ∀ k, k ≤ p.length → most (p.take (frm p k)) = (frm p k : Int) ∧ joinAll false (prt p k) = p.take (frm p k)
  | 0, _ => by simp [frm, prt, most, joinAll]
  | k + 1, hk => by
    obtain ⟨h1, h2⟩ := prt_cut h k (by omega)
    by_cases hc : most (p.take (k + 1)) = (k : Int) + 1
    · rw [frm_yes hc, prt_yes hc]
      refine ⟨by rw [hc]; omega, ?_⟩
      rw [joinAll_snoc, h2]
      have hfk := frm_le p k
      have hb := part_back h hfk (by omega) h1 hc
      have hfl : (p.take (frm p k)).length = frm p k := by rw [List.length_take]; omega
      simp only [joinL, Bool.false_eq_true, if_false, hfl]
      rw [hb, ← List.drop_take, show p.take (frm p k) = (p.take (k + 1)).take (frm p k) by rw [List.take_take, Nat.min_eq_left (by omega)], List.take_append_drop]
    · rw [frm_no hc, prt_no hc]
      exact ⟨h1, h2⟩
theorem frm_full {p : List Int} (h : isP p = true) : frm p p.length = p.length := by
  cases hn : p.length with
  | zero => rfl
  | succ n =>
    refine frm_yes ?_
    rw [← hn, List.take_length, most_isP h]; omega
theorem join_parts {p : List Int} (h : isP p = true) : joinAll false (partsR p) = p := by
  rw [partsR_yes h, (prt_cut h p.length (Nat.le_refl _)).2, frm_full h, List.take_length]
theorem parts_fit (p : List Int) : allFit (partsR p) = true := allFit_yes (fun _ hz => partsR_isP hz) (partsR_small p).2
theorem skews_fit (p : List Int) : allFit (skewsR p) = true := allFit_yes (fun _ hz => skewsR_isP hz) (skewsR_small p).2
theorem joins_parts {p : List Int} (h : isP p = true) : joinsR false (partsR p) = p := by rw [joinsR_yes (parts_fit p), join_parts h]
theorem cpl_cpl (p : List Int) : cplL (cplL p) = p := by
  unfold cplL
  rw [List.map_map, List.length_map]
  refine (List.map_congr_left fun v _ => ?_).trans (List.map_id _)
  simp only [Function.comp, id]
  omega
theorem cpl_join (a b : List Int) : joinL true (cplL a) (cplL b) = cplL (joinL false a b) := by
  simp only [joinL, if_true, Bool.false_eq_true, if_false, cplL_length]
  unfold cplL
  rw [List.map_append, List.map_map, List.map_map, List.length_append, List.length_map]
  congr 1
  · refine List.map_congr_left fun v _ => ?_
    simp only [Function.comp]; omega
  · refine List.map_congr_left fun v _ => ?_
    simp only [Function.comp]; omega
theorem cpl_joins (l : List (List Int)) : joinAll true (l.map cplL) = cplL (joinAll false l) := by
  have : ∀ (l : List (List Int)) (a : List Int), (l.map cplL).foldl (joinL true) (cplL a) = cplL (l.foldl (joinL false) a) := fun l => by
    induction l with
    | nil => intro a; rfl
    | cons z l ih => intro a; rw [List.map_cons, List.foldl_cons, List.foldl_cons, cpl_join, ih]
  exact this l []
theorem joins_skews {p : List Int} (h : isP p = true) : joinsR true (skewsR p) = p := by
  rw [joinsR_yes (skews_fit p), skewsR_yes h, cpl_joins, join_parts (isP_cpl h), cpl_cpl]
/-- Two parts: there is a cut in between. -/
theorem cut_between {p : List Int} (h : 1 < (prt p p.length).length) : ∃ j, 0 < j ∧ j < p.length ∧ most (p.take j) = j := by
  have hno : ∀ k, (∀ j, 0 < j → j ≤ k → most (p.take j) ≠ j) → prt p k = [] := fun k => by
    induction k with
    | zero => intro _; rfl
    | succ k ih =>
      intro hk
      have : ¬ most (p.take (k + 1)) = (k : Int) + 1 := fun e => hk (k + 1) (by omega) (Nat.le_refl _) (by rw [e]; omega)
      rw [prt_no this]
      exact ih fun j h1 h2 => hk j h1 (by omega)
  cases hn : p.length with
  | zero => rw [hn] at h; simp [prt] at h
  | succ n =>
    rw [hn] at h
    by_cases hall : ∀ j, 0 < j → j ≤ n → most (p.take j) ≠ j
    · have e := hno n hall
      rw [prt, e] at h
      split at h <;> simp at h
    · have : ∃ j, 0 < j ∧ j ≤ n ∧ most (p.take j) = j := by
        refine Classical.byContradiction fun hc => hall fun j h1 h2 e => hc ⟨j, h1, h2, e⟩
      obtain ⟨j, h1, h2, h3⟩ := this
      exact ⟨j, h1, by omega, h3⟩
theorem not_both {p : List Int} (h1 : 1 < (partsR p).length) (h2 : 1 < (skewsR p).length) : False := by
  cases h : isP p with
  | false => rw [partsR_no h] at h1; simp at h1
  | true =>
    rw [partsR_yes h] at h1
    rw [skewsR_yes h, List.length_map, partsR_yes (isP_cpl h)] at h2
    obtain ⟨j, hj0, hjn, hjc⟩ := cut_between h1
    obtain ⟨i, hi0, hin, hic⟩ := cut_between h2
    rw [cplL_length] at hin
    have a1 := cut_isP h (Nat.le_of_lt hjn) hjc
    have a2 := cut_isP (isP_cpl h) (by rw [cplL_length]; omega) hic
    have lj : (p.take j).length = j := by rw [List.length_take]; omega
    have li : ((cplL p).take i).length = i := by rw [List.length_take, cplL_length]; omega
    have one_j : (1 : Int) ∈ p.take j := by
      have := (nodup_iff_all (isP_true.1 a1).2.1).1 (isP_true.1 a1).2.2 0 (by omega)
      simpa using this
    have top_j : ∀ x ∈ p.take j, x ≤ (j : Int) := fun x hx => by have := ((isP_true.1 a1).2.1 x hx).2; rwa [lj] at this
    have emap : (cplL p).take i = (p.take i).map fun v => (p.length : Int) + 1 - v := by unfold cplL; rw [List.map_take]
    have top_i : (p.length : Int) ∈ p.take i := by
      have := (nodup_iff_all (isP_true.1 a2).2.1).1 (isP_true.1 a2).2.2 0 (by omega)
      rw [emap] at this
      obtain ⟨v, hv, e⟩ := List.mem_map.1 this
      rwa [show v = (p.length : Int) by omega] at hv
    have one_i : (1 : Int) ∉ p.take i := fun hx => by
      have h3 : (p.length : Int) + 1 - 1 ∈ (cplL p).take i := by rw [emap]; exact List.mem_map.2 ⟨1, hx, rfl⟩
      have := ((isP_true.1 a2).2.1 _ h3).2
      rw [li] at this
      omega
    by_cases hij : j ≤ i
    · exact one_i (by rw [show p.take j = (p.take i).take j by rw [List.take_take, Nat.min_eq_left hij]] at one_j; exact List.mem_of_mem_take one_j)
    · have := top_j _ (by rw [show p.take i = (p.take j).take i by rw [List.take_take, Nat.min_eq_left (by omega)]] at top_i; exact List.mem_of_mem_take top_i)
      omega
theorem most_map (c : Int) : ∀ (l : List Int) (a : Int), (l.map fun v => v + c).foldl max (a + c) = l.foldl max a + c
  | [], _ => rfl
  | y :: l, a => by
    rw [List.map_cons, List.foldl_cons, List.foldl_cons, show max (a + c) (y + c) = max a y + c by omega]
    exact most_map c l (max a y)
theorem parts_join {x y : List Int} (h : fit x y = true) : (partsR (joinR false x y)).length = (partsR x).length + (partsR y).length := by
  obtain ⟨hx, hy, _⟩ := fit_all h
  rw [joinR_yes h, partsR_yes (isP_join h), partsR_yes hx, partsR_yes hy, joinL_length]
  have es : joinL false x y = x ++ y.map (fun v => v + (x.length : Int)) := by simp [joinL]
  rw [es]
  obtain ⟨s, hs⟩ : ∃ s, s = x ++ y.map (fun v => v + (x.length : Int)) := ⟨_, rfl⟩
  rw [← hs]
  have h1 : ∀ k, k ≤ x.length → (prt s k).length = (prt x k).length := fun k => by
    induction k with
    | zero => intro _; rfl
    | succ k ih =>
      intro hk
      have e : s.take (k + 1) = x.take (k + 1) := by rw [hs, List.take_append_of_le_length hk]
      rw [prt, prt, e]
      split
      · rw [List.length_append, List.length_append, ih (by omega)]; rfl
      · exact ih (by omega)
  have h2 : ∀ j, j ≤ y.length → (prt s (x.length + j)).length = (prt x x.length).length + (prt y j).length := fun j => by
    induction j with
    | zero => intro _; rw [Nat.add_zero, h1 _ (Nat.le_refl _)]; rfl
    | succ j ih =>
      intro hj
      have e : s.take (x.length + j + 1) = x ++ (y.take (j + 1)).map (fun v => v + (x.length : Int)) := by
        rw [hs, Nat.add_assoc, List.take_append, List.take_of_length_le (by omega), Nat.add_sub_cancel_left, List.map_take]
      have em : most (s.take (x.length + j + 1)) = most (y.take (j + 1)) + (x.length : Int) := by
        rw [e]
        unfold most
        rw [List.foldl_append]
        have h3 : x.foldl max 0 = 0 + (x.length : Int) := by have := most_isP hx; unfold most at this; omega
        rw [h3]
        exact most_map _ _ 0
      rw [← Nat.add_assoc, prt, prt, em]
      by_cases hc : most (y.take (j + 1)) = (j : Int) + 1
      · rw [if_pos hc, if_pos (by rw [hc]; omega), List.length_append, List.length_append, ih (by omega)]
        simp only [List.length_singleton]; omega
      · rw [if_neg hc, if_neg (by omega)]
        exact ih (by omega)
  exact h2 y.length (Nat.le_refl _)
end Go.Proofs.Ytknjgehcaadomaa
