
/-
  PLAIN: the places of a part; occurrences in the reverse and in the inverse are as many.
-/
import Derived.Test.YtknjgehcaadomaaOccM
import Derived.Test.YtknjgehcaadomaaSymG
namespace Go.Proofs.Ytknjgehcaadomaa
set_option maxRecDepth 100000

/-! lists of lists without repetition -/
theorem asc_nodup {l : List (List Int)} (h : Asc l) : l.Nodup := by
  rw [List.nodup_iff_pairwise_ne]
  exact h.imp fun {a b} h e => by rw [e, befL_irrefl] at h; exact absurd h Bool.false_ne_true
theorem subL_erase {a : List Int} {l m : List (List Int)} (hnd : (a :: l).Nodup) (h : ∀ x ∈ a :: l, x ∈ m) : ∀ x ∈ l, x ∈ m.erase a := fun x hx => by
  have hne : x ≠ a := fun e => by subst e; exact (List.nodup_cons.1 hnd).1 hx
  exact (List.mem_erase_of_ne hne).2 (h x (by simp [hx]))
theorem pigeonL_le : ∀ {l m : List (List Int)}, l.Nodup → (∀ x ∈ l, x ∈ m) → l.length ≤ m.length
  | [], _, _, _ => Nat.zero_le _
  | a :: l, m, hnd, h => by
    have ha := h a (by simp)
    have h1 := pigeonL_le (List.nodup_cons.1 hnd).2 (subL_erase hnd h)
    have h2 := List.length_pos_of_mem ha
    rw [List.length_erase_of_mem ha] at h1
    rw [List.length_cons]; omega
/-- A list that is told apart into another one is not longer. -/
theorem inject_le {l m : List (List Int)} (f : List Int → List Int) (hl : l.Nodup) (h : ∀ x ∈ l, f x ∈ m) (hf : ∀ x ∈ l, ∀ y ∈ l, f x = f y → x = y) : l.length ≤ m.length := by
  have hn : (l.map f).Nodup := by
    rw [List.nodup_iff_pairwise_ne, List.pairwise_map]
    refine List.Pairwise.imp_of_mem (fun {a b} ha hb hne e => hne (hf a ha b hb e)) (List.nodup_iff_pairwise_ne.1 hl)
  have := pigeonL_le hn (m := m) fun x hx => by
    obtain ⟨y, hy, rfl⟩ := List.mem_map.1 hx
    exact h y hy
  rwa [List.length_map] at this

/-! the reverse -/
theorem cnt_rev (l : List Int) (v : Int) : cnt l.reverse v = cnt l v := by unfold cnt; rw [List.filter_reverse, List.length_reverse]
theorem patL_rev (l : List Int) : patL l.reverse = (patL l).reverse := by
  unfold patL
  rw [List.map_reverse]
  congr 1
  exact List.map_congr_left fun x _ => by rw [cnt_rev]
def plRev (n : Nat) (pl : List Int) : List Int := (pl.map fun x => (n : Int) + 1 - x).reverse
theorem plRev_ok {n : Nat} {pl : List Int} (h : PlOK n pl) : PlOK n (plRev n pl) := by
  refine ⟨fun x hx => ?_, ?_⟩
  · unfold plRev at hx
    rw [List.mem_reverse, List.mem_map] at hx
    obtain ⟨y, hy, rfl⟩ := hx
    have := h.1 y hy; omega
  · unfold plRev
    rw [List.pairwise_reverse, List.pairwise_map]
    exact h.2.imp fun h => by omega
theorem plRev_back (n : Nat) (pl : List Int) : plRev n (plRev n pl) = pl := by
  unfold plRev
  rw [List.map_reverse, List.reverse_reverse, List.map_map]
  rw [show ((fun x => (n : Int) + 1 - x) ∘ fun x => (n : Int) + 1 - x) = id by funext x; simp only [Function.comp, id]; omega]
  exact List.map_id pl
theorem at0_rev {l : List Int} {i : Nat} (h : i < l.length) : at0 l.reverse i = at0 l (l.length - 1 - i) := at0_of (by rw [List.getElem?_reverse h]; exact at0_some (by omega))
theorem nums_rev {p pl : List Int} (h : PlOK p.length pl) : nums p.reverse (plRev p.length pl) = (nums p pl).reverse := by
  unfold nums plRev
  rw [List.map_reverse, List.map_map]
  congr 1
  refine List.map_congr_left fun x hx => ?_
  have := h.1 x hx
  simp only [Function.comp]
  rw [at0_rev (by omega)]
  congr 1; omega
theorem occ_rev {p q pl : List Int} (h : pl ∈ occR p q) : plRev p.length pl ∈ occR p.reverse q.reverse := by
  rw [mem_occ, isOcc_iff] at h ⊢
  obtain ⟨h1, h2, h3, h4, h5⟩ := h
  refine ⟨isP_rev h1, isP_rev h2, by rw [plRev, List.length_reverse, List.length_map, List.length_reverse, h3], by rw [List.length_reverse]; exact plRev_ok h4, ?_⟩
  rw [nums_rev h4, patL_rev, h5]
theorem occ_rev_le (p q : List Int) : (occR p q).length ≤ (occR p.reverse q.reverse).length :=
  inject_le (plRev p.length) (asc_nodup (occ_asc p q)) (fun _ h => occ_rev h) fun x _ y _ e => by rw [← plRev_back p.length x, e, plRev_back]
theorem occ_rev_len (p q : List Int) : (occR p.reverse q.reverse).length = (occR p q).length := by
  have h1 := occ_rev_le p q
  have h2 := occ_rev_le p.reverse q.reverse
  rw [List.reverse_reverse, List.reverse_reverse] at h2
  omega

/-! the inverse -/
/-- The places in the inverse: the numbers at the places, in ascending order. -/
def plInv (p q pl : List Int) : List Int := (List.range q.length).map fun j => at0 (nums p pl) ((at0 (invL q) j).toNat - 1)
theorem plInv_length (p q pl : List Int) : (plInv p q pl).length = q.length := by simp [plInv]
theorem plInv_at {p q pl : List Int} {j : Nat} (h : j < q.length) : at0 (plInv p q pl) j = at0 (nums p pl) ((at0 (invL q) j).toNat - 1) := at0_of (by unfold plInv; rw [List.getElem?_map, List.getElem?_range h]; rfl)
/-- A place of the inverse: where the number stands. -/
theorem inv_at {q : List Int} (hq : isP q = true) {j : Nat} (hj : j < q.length) : ∃ i, i < q.length ∧ at0 q i = (j : Int) + 1 ∧ at0 (invL q) j = (i : Int) + 1 := by
  obtain ⟨i, hi, h1, h2⟩ := invL_get hq hj
  exact ⟨i, hi, at0_of h1, at0_of h2⟩
theorem inv_val {p : List Int} (hp : isP p = true) {i : Nat} (hi : i < p.length) : at0 (invL p) ((at0 p i).toNat - 1) = (i : Int) + 1 := at0_of (invL_at hp hi (at0_some hi))
theorem rng_at {p : List Int} (hp : isP p = true) {i : Nat} (hi : i < p.length) : 1 ≤ at0 p i ∧ at0 p i ≤ (p.length : Int) := isP_range hp (at0_some hi)
theorem plOK_of {n : Nat} {l : List Int} (h1 : ∀ i, i < l.length → 1 ≤ at0 l i ∧ at0 l i ≤ (n : Int)) (h2 : ∀ i j, i < j → j < l.length → at0 l i < at0 l j) : PlOK n l := by
  refine ⟨fun x hx => ?_, List.pairwise_iff_getElem.2 fun i j hi hj hij => ?_⟩
  · obtain ⟨i, hi, rfl⟩ := List.getElem_of_mem hx
    have := h1 i hi
    rwa [at0_of (List.getElem?_eq_getElem hi)] at this
  · have := h2 i j hij hj
    rwa [at0_of (List.getElem?_eq_getElem hi), at0_of (List.getElem?_eq_getElem hj)] at this
theorem occ_inv {p q pl : List Int} (h : pl ∈ occR p q) : plInv p q pl ∈ occR (invL p) (invL q) ∧ ∀ i, i < pl.length → at0 (nums (invL p) (plInv p q pl)) ((at0 q i).toNat - 1) = at0 pl i := by
  rw [mem_occ, isOcc_iff] at h
  obtain ⟨h1, h2, h3, h4, h5⟩ := h
  have ha := (pat_eq_iff h2).1 h5
  have hnl := nums_length p pl
  have hv : ∀ i, i < pl.length → 1 ≤ at0 (nums p pl) i ∧ at0 (nums p pl) i ≤ (p.length : Int) := fun i hi => by
    have := h4.rng hi
    rw [nums_at0 hi]
    exact rng_at h1 (by omega)
  have hok : PlOK (invL p).length (plInv p q pl) := by
    rw [invL_length]
    refine plOK_of (fun i hi => ?_) fun i j hij hj => ?_
    · rw [plInv_length] at hi
      rw [plInv_at hi]
      obtain ⟨k, hk, _, e⟩ := inv_at h2 hi
      rw [e]
      have := hv k (by omega)
      rwa [show ((k : Int) + 1).toNat - 1 = k by omega]
    · rw [plInv_length] at hj
      rw [plInv_at (show i < q.length by omega), plInv_at hj]
      obtain ⟨k, hk, e1, e⟩ := inv_at h2 (show i < q.length by omega)
      obtain ⟨k', hk', e1', e'⟩ := inv_at h2 hj
      rw [e, e', show ((k : Int) + 1).toNat - 1 = k by omega, show ((k' : Int) + 1).toNat - 1 = k' by omega]
      rw [ha.2 k k' (by omega) (by omega), e1, e1']
      omega
  have hback : ∀ j, j < q.length → at0 (nums (invL p) (plInv p q pl)) j = at0 pl ((at0 (invL q) j).toNat - 1) := fun j hj => by
    rw [nums_at0 (by rw [plInv_length]; exact hj), plInv_at hj]
    obtain ⟨k, hk, _, e⟩ := inv_at h2 hj
    rw [e, show ((k : Int) + 1).toNat - 1 = k by omega, nums_at0 (by omega)]
    have := h4.rng (i := k) (by omega)
    rw [inv_val h1 (by omega)]
    omega
  refine ⟨?_, fun i hi => ?_⟩
  · rw [mem_occ, isOcc_iff]
    refine ⟨invL_isP h1, invL_isP h2, by rw [plInv_length, invL_length], hok, ?_⟩
    rw [pat_eq_iff (invL_isP h2)]
    refine ⟨by rw [nums_length, plInv_length, invL_length], fun i j hi hj => ?_⟩
    rw [nums_length, plInv_length] at hi hj
    rw [hback i hi, hback j hj]
    obtain ⟨k, hk, _, e⟩ := inv_at h2 hi
    obtain ⟨k', hk', _, e'⟩ := inv_at h2 hj
    rw [e, e', show ((k : Int) + 1).toNat - 1 = k by omega, show ((k' : Int) + 1).toNat - 1 = k' by omega]
    rcases Nat.lt_trichotomy k k' with hh | hh | hh
    · have := h4.mono hh (by omega); omega
    · subst hh; omega
    · have := h4.mono hh (by omega); omega
  · have hr := rng_at h2 (show i < q.length by omega)
    rw [hback _ (by omega), inv_val h2 (by omega), show ((i : Int) + 1).toNat - 1 = i by omega]
theorem occ_inv_le (p q : List Int) : (occR p q).length ≤ (occR (invL p) (invL q)).length :=
  inject_le (plInv p q) (asc_nodup (occ_asc p q)) (fun _ h => (occ_inv h).1) fun x hx y hy e => by
    have h1 := (isOcc_iff.1 (mem_occ.1 hx)).2.2.1
    have h2 := (isOcc_iff.1 (mem_occ.1 hy)).2.2.1
    refine ext_at0 (by omega) fun i hi => ?_
    rw [← (occ_inv hx).2 i hi, e, (occ_inv hy).2 i (by omega)]
theorem occ_inv_len {p q : List Int} (hp : isP p = true) (hq : isP q = true) : (occR (invL p) (invL q)).length = (occR p q).length := by
  have h1 := occ_inv_le p q
  have h2 := occ_inv_le (invL p) (invL q)
  rw [inv_inv hp, inv_inv hq] at h2
  omega

/-! a part of a permutation -/
theorem nums_up (a : Int) (l pl : List Int) (h : ∀ x ∈ pl, 1 ≤ x) : nums (a :: l) (pl.map fun x => x + 1) = nums l pl := by
  unfold nums
  rw [List.map_map]
  refine List.map_congr_left fun x hx => ?_
  have := h x hx
  simp only [Function.comp]
  rw [show (x + 1).toNat - 1 = x.toNat - 1 + 1 by omega, at0_succ]
theorem plOK_up {n : Nat} {pl : List Int} (h : PlOK n pl) : PlOK (n + 1) (pl.map fun x => x + 1) := by
  refine ⟨fun x hx => ?_, ?_⟩
  · obtain ⟨y, hy, rfl⟩ := List.mem_map.1 hx
    have := h.1 y hy; omega
  · rw [List.pairwise_map]
    exact h.2.imp fun h => by omega
theorem places_of {s l : List Int} (h : s.Sublist l) : ∃ pl, PlOK l.length pl ∧ nums l pl = s := by
  induction h with
  | slnil => exact ⟨[], PlOK.nil _, rfl⟩
  | cons a _ ih =>
    obtain ⟨pl, h1, h2⟩ := ih
    exact ⟨_, by rw [List.length_cons]; exact plOK_up h1, by rw [nums_up a _ pl fun x hx => (h1.1 x hx).1, h2]⟩
  | cons_cons a _ ih =>
    obtain ⟨pl, h1, h2⟩ := ih
    refine ⟨1 :: pl.map fun x => x + 1, ?_, ?_⟩
    · rw [List.length_cons]
      have h3 := plOK_up h1
      refine ⟨fun x hx => ?_, List.pairwise_cons.2 ⟨fun x hx => ?_, h3.2⟩⟩
      · rcases List.mem_cons.1 hx with rfl | hx
        · omega
        · exact h3.1 x hx
      · obtain ⟨y, hy, rfl⟩ := List.mem_map.1 hx
        have := h1.1 y hy; omega
    · have h3 := (nums_up a _ pl fun x hx => (h1.1 x hx).1).trans h2
      unfold nums at h3 ⊢
      rw [List.map_cons, h3]; rfl
theorem occ_sub {p s : List Int} (hp : isP p = true) (h : s.Sublist p) (hs : isP (patL s) = true) : 0 < (occR p (patL s)).length := by
  obtain ⟨pl, h1, h2⟩ := places_of h
  refine List.length_pos_of_mem (a := pl) ?_
  rw [mem_occ, isOcc_iff]
  exact ⟨hp, hs, by rw [patL_length, ← h2, nums_length], h1, by rw [h2]⟩
end Go.Proofs.Ytknjgehcaadomaa
