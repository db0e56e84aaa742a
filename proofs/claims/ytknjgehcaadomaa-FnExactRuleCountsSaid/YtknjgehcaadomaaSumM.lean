
/-
  PLAIN: sums of permutations, the parts of a sum, what is layered.
-/
import Derived.Test.YtknjgehcaadomaaSymM
import Derived.Test.YtknjgehcaadomaaPermP
import Derived.Test.YtknjgehcaadomaaPermL
namespace Go.Proofs.Ytknjgehcaadomaa
set_option maxRecDepth 100000

/-- Two lists, one above the other one. -/
def joinL (skew : Bool) (p q : List Int) : List Int :=
  if skew then p.map (fun v => v + (q.length : Int)) ++ q else p ++ q.map (fun v => v + (p.length : Int))
theorem joinL_length (s : Bool) (p q : List Int) : (joinL s p q).length = p.length + q.length := by cases s <;> simp [joinL]
def fit (p q : List Int) : Bool := isP p && isP q && decide (p.length + q.length ≤ 8)
def joinR (s : Bool) (p q : List Int) : List Int := if fit p q then joinL s p q else []
theorem joinR_yes {s : Bool} {p q : List Int} (h : fit p q = true) : joinR s p q = joinL s p q := by unfold joinR; rw [if_pos h]
theorem joinR_no {s : Bool} {p q : List Int} (h : fit p q = false) : joinR s p q = [] := by unfold joinR; rw [if_neg (by simp [h])]
theorem fit_yes {p q : List Int} (h1 : isP p = true) (h2 : isP q = true) (h3 : p.length + q.length ≤ 8) : fit p q = true := by simp [fit, h1, h2, h3]
theorem fit_no1 {p q : List Int} (h1 : isP p = false) : fit p q = false := by simp [fit, h1]
theorem fit_no2 {p q : List Int} (h1 : isP q = false) : fit p q = false := by simp [fit, h1]
theorem fit_no3 {p q : List Int} (h1 : ¬ p.length + q.length ≤ 8) : fit p q = false := by simp [fit]; omega
theorem fit_all {p q : List Int} (h : fit p q = true) : isP p = true ∧ isP q = true ∧ p.length + q.length ≤ 8 := by simpa [fit, and_assoc] using h
theorem joinR_le (s : Bool) (p q : List Int) : (joinR s p q).length ≤ 8 := by
  cases h : fit p q with
  | true => rw [joinR_yes h, joinL_length]; exact (fit_all h).2.2
  | false => rw [joinR_no h]; simp
theorem isP_nil : isP [] = true := by decide
theorem isP_join {s : Bool} {p q : List Int} (h : fit p q = true) : isP (joinL s p q) = true := by
  obtain ⟨hp, hq, hl⟩ := fit_all h
  obtain ⟨_, hpr, hpn⟩ := isP_true.1 hp
  obtain ⟨_, hqr, hqn⟩ := isP_true.1 hq
  have inj : ∀ (c : Int) (l : List Int), l.Nodup → (l.map (fun v => v + c)).Nodup := fun c l hn => nodup_map (fun a _ b _ e => by omega) hn
  refine isP_true.2 ⟨by rw [joinL_length]; exact hl, ?_, ?_⟩
  · rw [joinL_length]
    intro x hx
    cases s with
    | true =>
      simp only [joinL, if_true, List.mem_append, List.mem_map] at hx
      rcases hx with ⟨v, hv, rfl⟩ | hx
      · have := hpr v hv; omega
      · have := hqr x hx; omega
    | false =>
      simp only [joinL, Bool.false_eq_true, if_false, List.mem_append, List.mem_map] at hx
      rcases hx with hx | ⟨v, hv, rfl⟩
      · have := hpr x hx; omega
      · have := hqr v hv; omega
  · cases s with
    | true =>
      simp only [joinL, if_true]
      refine List.nodup_append.2 ⟨inj _ _ hpn, hqn, fun a ha b hb e => ?_⟩
      obtain ⟨v, hv, rfl⟩ := List.mem_map.1 ha
      have := hpr v hv; have := hqr b hb; omega
    | false =>
      simp only [joinL, Bool.false_eq_true, if_false]
      refine List.nodup_append.2 ⟨hpn, inj _ _ hqn, fun a ha b hb e => ?_⟩
      obtain ⟨v, hv, rfl⟩ := List.mem_map.1 hb
      have := hpr a ha; have := hqr v hv; omega

/-- All elements of a list joined, as long as they fit. -/
def joinAll (s : Bool) (l : List (List Int)) : List Int := l.foldl (joinL s) []
def allFit (l : List (List Int)) : Bool := allP l && decide (tot l ≤ 8)
theorem joinAll_snoc (s : Bool) (l : List (List Int)) (z : List Int) : joinAll s (l ++ [z]) = joinL s (joinAll s l) z := by simp [joinAll]
theorem joinAll_length (s : Bool) (l : List (List Int)) : (joinAll s l).length = tot l := by
  have : ∀ (l : List (List Int)) (a : List Int), (l.foldl (joinL s) a).length = a.length + tot l := fun l => by
    induction l with
    | nil => intro a; simp [tot]
    | cons z l ih => intro a; rw [List.foldl_cons, ih, joinL_length]; simp [tot]; omega
  rw [joinAll, this]; simp
theorem joinAll_isP {s : Bool} (l : List (List Int)) (hp : allP l = true) (ht : tot l ≤ 8) : isP (joinAll s l) = true := by
  have : ∀ (l : List (List Int)) (a : List Int), isP a = true → allP l = true → a.length + tot l ≤ 8 → isP (l.foldl (joinL s) a) = true := fun l => by
    induction l with
    | nil => intro a ha _ _; exact ha
    | cons z l ih =>
      intro a ha hl ht
      have ht' : a.length + (z.length + tot l) ≤ 8 := by simpa [tot] using ht
      rw [List.foldl_cons]
      exact ih _ (isP_join (fit_yes ha (allP_at hl (by simp)) (by omega))) (allP_yes fun x hx => allP_at hl (by simp [hx])) (by rw [joinL_length]; omega)
  exact this l [] isP_nil hp (by simpa using ht)
def joinsR (s : Bool) (l : List (List Int)) : List Int := if allFit l then joinAll s l else []
theorem joinsR_yes {s : Bool} {l : List (List Int)} (h : allFit l = true) : joinsR s l = joinAll s l := by unfold joinsR; rw [if_pos h]
theorem joinsR_no {s : Bool} {l : List (List Int)} (h : allFit l = false) : joinsR s l = [] := by unfold joinsR; rw [if_neg (by simp [h])]
theorem joinsR_le (s : Bool) (l : List (List Int)) : (joinsR s l).length ≤ 8 := by
  cases h : allFit l with
  | true =>
    rw [joinsR_yes h, joinAll_length]
    simp [allFit] at h; exact h.2
  | false => rw [joinsR_no h]; simp
theorem allFit_no1 {l : List (List Int)} {z : List Int} (h : z ∈ l) (hz : isP z = false) : allFit l = false := by simp [allFit, allP_no h hz]
theorem allFit_no2 {l : List (List Int)} (h : 8 < tot l) : allFit l = false := by simp [allFit]; omega
theorem allFit_yes {l : List (List Int)} (h : ∀ z ∈ l, isP z = true) (ht : tot l ≤ 8) : allFit l = true := by simp [allFit, allP_yes h, ht]
theorem take_snoc_r {l : List (List Int)} {k : Nat} {z : List Int} (h : l[k]? = some z) : l.take (k + 1) = l.take k ++ [z] := by rw [List.take_add_one, h]; rfl
theorem tot_take' {l : List (List Int)} {k : Nat} {z : List Int} (h : l[k]? = some z) : tot (l.take (k + 1)) = tot (l.take k) + z.length := by rw [take_snoc_r h, tot_snoc]
theorem tot_take_le (l : List (List Int)) (k : Nat) : tot (l.take k) ≤ tot l := by
  have this : ∀ a b : List (List Int), tot (a ++ b) = tot a + tot b := fun a b => by simp [tot]
  have h := this (l.take k) (l.drop k)
  rw [List.take_append_drop] at h
  omega
theorem joinAll_take {s : Bool} {l : List (List Int)} {k : Nat} {z : List Int} (h : l[k]? = some z) : joinAll s (l.take (k + 1)) = joinL s (joinAll s (l.take k)) z := by rw [take_snoc_r h, joinAll_snoc]

/-- The flat form: each element raised at once. -/
def flatAll (s : Bool) (L : Nat) : List (List Int) → Nat → List Int
  | [], _ => []
  | z :: l, n => z.map (fun v => v + ((if s then L - n - z.length else n : Nat) : Int)) ++ flatAll s L l (n + z.length)
theorem flatAll_snoc (s : Bool) (L : Nat) : ∀ (l : List (List Int)) (n : Nat) (z : List Int), flatAll s L (l ++ [z]) n = flatAll s L l n ++ z.map (fun v => v + ((if s then L - (n + tot l) - z.length else n + tot l : Nat) : Int))
  | [], n, z => by simp [flatAll, tot]
  | y :: l, n, z => by
    rw [List.cons_append, flatAll, flatAll, flatAll_snoc s L l]
    have e : n + y.length + tot l = n + tot (y :: l) := by simp [tot]; omega
    rw [e, List.append_assoc]
theorem flatAll_more (L m : Nat) : ∀ (l : List (List Int)) (n : Nat), n + tot l ≤ L → flatAll true (L + m) l n = (flatAll true L l n).map (fun v => v + (m : Int))
  | [], _, _ => by simp [flatAll]
  | y :: l, n, h => by
    have h' : n + (y.length + tot l) ≤ L := by simpa [tot] using h
    rw [flatAll, flatAll, flatAll_more L m l _ (by omega), List.map_append, List.map_map]
    congr 1
    refine List.map_congr_left fun v _ => ?_
    simp only [if_true, Function.comp]
    omega
theorem flat_join (s : Bool) (l : List (List Int)) : flatAll s (tot l) l 0 = joinAll s l := by
  have : ∀ (k : Nat), k ≤ l.length → flatAll s (tot (l.take k)) (l.take k) 0 = joinAll s (l.take k) := fun k => by
    induction k with
    | zero => intro _; simp [flatAll, joinAll]
    | succ k ih =>
      intro hk
      obtain ⟨z, hz⟩ : ∃ z, l[k]? = some z := ⟨_, List.getElem?_eq_getElem (by omega)⟩
      rw [joinAll_take hz, ← ih (by omega), tot_take' hz, take_snoc_r hz, flatAll_snoc]
      have hlen : (flatAll s (tot (l.take k)) (l.take k) 0).length = tot (l.take k) := by rw [ih (by omega), joinAll_length]
      cases s with
      | true =>
        rw [flatAll_more _ _ _ _ (by omega)]
        simp only [joinL, if_true]
        congr 1
        have : tot (l.take k) + z.length - (0 + tot (l.take k)) - z.length = 0 := by omega
        rw [this]
        simp
      | false =>
        simp only [joinL, Bool.false_eq_true, if_false, hlen]
        have e : ∀ L L' n, flatAll false L (l.take k) n = flatAll false L' (l.take k) n := fun L L' n => by
          generalize l.take k = m
          induction m generalizing n with
          | nil => rfl
          | cons y m ih => simp only [flatAll, Bool.false_eq_true, if_false]; rw [ih]
        rw [e _ (tot (l.take k)) 0]
        simp
  have h := this l.length (Nat.le_refl _)
  rwa [List.take_length] at h

/-- The greatest of a list and 0. -/
def most (l : List Int) : Int := l.foldl max 0
theorem most_take {l : List Int} {k : Nat} {z : Int} (h : l[k]? = some z) : most (l.take (k + 1)) = max (most (l.take k)) z := by rw [take_snoc_i h]; simp [most]
/-- Where the part that is under way began; the parts that ended. -/
def frm (p : List Int) : Nat → Nat
  | 0 => 0
  | k + 1 => if most (p.take (k + 1)) = (k : Int) + 1 then k + 1 else frm p k
def prt (p : List Int) : Nat → List (List Int)
  | 0 => []
  | k + 1 => if most (p.take (k + 1)) = (k : Int) + 1 then prt p k ++ [patL ((p.drop (frm p k)).take (k + 1 - frm p k))] else prt p k
theorem frm_le (p : List Int) : ∀ k, frm p k ≤ k
  | 0 => Nat.le_refl _
  | k + 1 => by
    rw [frm]
    have := frm_le p k
    split <;> omega
theorem frm_yes {p : List Int} {k : Nat} (h : most (p.take (k + 1)) = (k : Int) + 1) : frm p (k + 1) = k + 1 := by rw [frm, if_pos h]
theorem frm_no {p : List Int} {k : Nat} (h : ¬ most (p.take (k + 1)) = (k : Int) + 1) : frm p (k + 1) = frm p k := by rw [frm, if_neg h]
theorem prt_yes {p : List Int} {k : Nat} (h : most (p.take (k + 1)) = (k : Int) + 1) : prt p (k + 1) = prt p k ++ [patL ((p.drop (frm p k)).take (k + 1 - frm p k))] := by rw [prt, if_pos h]
theorem prt_no {p : List Int} {k : Nat} (h : ¬ most (p.take (k + 1)) = (k : Int) + 1) : prt p (k + 1) = prt p k := by rw [prt, if_neg h]
theorem prt_len (p : List Int) : ∀ k, (prt p k).length ≤ k
  | 0 => Nat.le_refl _
  | k + 1 => by
    rw [prt]
    have := prt_len p k
    split
    · rw [List.length_append]; simp; omega
    · omega
theorem prt_tot (p : List Int) : ∀ k, tot (prt p k) ≤ frm p k
  | 0 => by simp [prt, tot]
  | k + 1 => by
    have h1 := prt_tot p k
    have h2 := frm_le p k
    by_cases h : most (p.take (k + 1)) = (k : Int) + 1
    · rw [prt_yes h, frm_yes h, tot_snoc, patL_length, List.length_take]; omega
    · rw [prt_no h, frm_no h]; exact h1
theorem nodup_cut {p : List Int} (h : p.Nodup) (a b : Nat) : ((p.drop a).take b).Nodup := (List.nodup_iff_pairwise_ne.1 h).sublist ((List.take_sublist _ _).trans (List.drop_sublist _ _)) |> List.nodup_iff_pairwise_ne.2
theorem patOK_cut {p : List Int} (h : isP p = true) (a b : Nat) : patOK ((p.drop a).take b) = true := by
  obtain ⟨h8, _, hn⟩ := isP_true.1 h
  exact patOK_yes (by rw [List.length_take, List.length_drop]; omega) (nodup_cut hn a b)
theorem prt_isP {p : List Int} (h : isP p = true) : ∀ k z, z ∈ prt p k → isP z = true
  | 0, z, hz => by simp [prt] at hz
  | k + 1, z, hz => by
    by_cases hm : most (p.take (k + 1)) = (k : Int) + 1
    · rw [prt_yes hm] at hz
      rcases List.mem_append.1 hz with hz | hz
      · exact prt_isP h k z hz
      · obtain rfl := List.mem_singleton.1 hz
        rw [isP_pat]; exact patOK_cut h _ _
    · rw [prt_no hm] at hz
      exact prt_isP h k z hz
def partsR (p : List Int) : List (List Int) := if isP p then prt p p.length else []
theorem partsR_yes {p : List Int} (h : isP p = true) : partsR p = prt p p.length := by unfold partsR; rw [if_pos h]
theorem partsR_no {p : List Int} (h : isP p = false) : partsR p = [] := by unfold partsR; rw [if_neg (by simp [h])]
theorem partsR_isP {p z : List Int} (hz : z ∈ partsR p) : isP z = true := by
  cases h : isP p with
  | true => rw [partsR_yes h] at hz; exact prt_isP h _ z hz
  | false => rw [partsR_no h] at hz; simp at hz
theorem partsR_small (p : List Int) : (partsR p).length ≤ 8 ∧ tot (partsR p) ≤ 8 := by
  cases h : isP p with
  | true =>
    have := isP_le h
    have := prt_len p p.length
    have := prt_tot p p.length
    have := frm_le p p.length
    rw [partsR_yes h]; omega
  | false => rw [partsR_no h]; simp [tot]
theorem partsR_allP (p : List Int) : allP (partsR p) = true := allP_yes fun _ hz => partsR_isP hz
def skewsR (p : List Int) : List (List Int) := if isP p then (partsR (cplL p)).map cplL else []
theorem skewsR_yes {p : List Int} (h : isP p = true) : skewsR p = (partsR (cplL p)).map cplL := by unfold skewsR; rw [if_pos h]
theorem skewsR_no {p : List Int} (h : isP p = false) : skewsR p = [] := by unfold skewsR; rw [if_neg (by simp [h])]
theorem tot_map_cpl : ∀ l : List (List Int), tot (l.map cplL) = tot l
  | [] => rfl
  | z :: l => by
    have := tot_map_cpl l
    simp only [tot, List.map_cons, List.map_map] at this ⊢
    rw [List.sum_cons, List.sum_cons, this, cplL_length]
theorem skewsR_small (p : List Int) : (skewsR p).length ≤ 8 ∧ tot (skewsR p) ≤ 8 := by
  cases h : isP p with
  | true => rw [skewsR_yes h, tot_map_cpl, List.length_map]; exact partsR_small _
  | false => rw [skewsR_no h]; simp [tot]
theorem skewsR_isP {p z : List Int} (hz : z ∈ skewsR p) : isP z = true := by
  cases h : isP p with
  | true =>
    rw [skewsR_yes h] at hz
    obtain ⟨y, hy, rfl⟩ := List.mem_map.1 hz
    exact isP_cpl (partsR_isP hy)
  | false => rw [skewsR_no h] at hz; simp at hz
/-- What is layered. -/
def layer (p : List Int) : Bool := isP p && (partsR p).all fun z => decide (z.reverse = upTo z.length)
theorem layer_no {p : List Int} (h : isP p = false) : layer p = false := by simp [layer, h]
theorem layer_at {p z : List Int} (hz : z ∈ partsR p) (h : z.reverse ≠ upTo z.length) : layer p = false := by
  unfold layer
  rw [Bool.and_eq_false_iff]
  right
  rw [List.all_eq_false]
  exact ⟨z, hz, by simpa using h⟩
theorem layer_yes {p : List Int} (h : isP p = true) (hz : ∀ z ∈ partsR p, z.reverse = upTo z.length) : layer p = true := by
  unfold layer
  rw [h, Bool.true_and, List.all_eq_true]
  exact fun z hz' => by simpa using hz z hz'
/-- A permutation in ascending order is 1, 2, and so on. -/
theorem asc_upTo {l : List Int} (h : isP l = true) (hs : ∀ i, i + 1 < l.length → at0 l i ≤ at0 l (i + 1)) : l = upTo l.length := by
  obtain ⟨_, hr, hn⟩ := isP_true.1 h
  have hlt : ∀ i j, i < j → j < l.length → at0 l i < at0 l j := fun i j => by
    induction j with
    | zero => intro h; omega
    | succ j ih =>
      intro hij hj
      have h1 := hs j hj
      have hne : at0 l j ≠ at0 l (j + 1) := fun e => by
        have := (List.getElem?_inj (i := j) (j := j + 1) (by omega) hn).1 (by rw [at0_some (by omega), at0_some hj, e])
        omega
      by_cases hij' : i = j
      · subst hij'; omega
      · have := ih (by omega) (by omega); omega
  have hlo : ∀ i, i < l.length → (i : Int) + 1 ≤ at0 l i := fun i => by
    induction i with
    | zero => intro hi; have := hr _ (List.mem_of_getElem? (at0_some hi)); omega
    | succ i ih => intro hi; have := ih (by omega); have := hlt i (i + 1) (by omega) hi; omega
  have hhi : ∀ d i, i < l.length → i + d + 1 = l.length → at0 l i ≤ (i : Int) + 1 := fun d => by
    induction d with
    | zero => intro i hi e; have := hr _ (List.mem_of_getElem? (at0_some hi)); omega
    | succ d ih => intro i hi e; have := ih (i + 1) (by omega) (by omega); have := hlt i (i + 1) (by omega) (by omega); omega
  refine List.ext_getElem? fun i => ?_
  by_cases hi : i < l.length
  · rw [at0_some hi]
    have h1 := hlo i hi
    have h2 := hhi (l.length - i - 1) i hi (by omega)
    unfold upTo
    rw [List.getElem?_map, List.getElem?_range hi]
    simp only [Option.map_some]
    congr 1
    omega
  · rw [List.getElem?_eq_none (by omega), List.getElem?_eq_none (by rw [upTo_length]; omega)]
end Go.Proofs.Ytknjgehcaadomaa
