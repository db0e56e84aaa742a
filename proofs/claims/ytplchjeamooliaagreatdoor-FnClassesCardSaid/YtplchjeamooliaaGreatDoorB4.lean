/-
  Words and contracts that the laws lean on, bundled: SymG, PermI, DrawT, JoinS, JoinT, IvM, OccM, ClassM, OccN.
-/
import Derived.Test.YtplchjeamooliaaGreatDoorB3
import Derived.Test.YtplchjeamooliaaGreatDoorB2
import Derived.Deep.RegionHeld3
import Derived.Test.YtplchjeamooliaaGreatDoorB1

/-
  PLAIN: the eight symmetries are a group of eight; classes are the same for their elements; their sizes divide eight.
-/

namespace Go.Proofs.YtplchjeamooliaaGreatDoor
set_option maxRecDepth 100000

def invL (p : List Int) : List Int := invFill p p.length
theorem invL_length (p : List Int) : (invL p).length = p.length := invFill_length p _
theorem invL_isP {p : List Int} (h : isP p = true) : isP (invL p) = true := isP_inv h
theorem invL_at {p : List Int} (h : isP p = true) {i : Nat} {z : Int} (hi : i < p.length) (hz : p[i]? = some z) : (invL p)[z.toNat - 1]? = some ((i : Int) + 1) :=
  invFill_at (isP_true.1 h).2.1 (isP_true.1 h).2.2 p.length i z hi (Nat.le_refl _) hz
/-- What is at a place of the inverse. -/
theorem invL_get {p : List Int} (h : isP p = true) {j : Nat} (hj : j < p.length) : ∃ i, i < p.length ∧ p[i]? = some ((j : Int) + 1) ∧ (invL p)[j]? = some ((i : Int) + 1) := by
  have hin := (nodup_iff_all (isP_true.1 h).2.1).1 (isP_true.1 h).2.2 j hj
  obtain ⟨i, hi, he⟩ := List.getElem_of_mem hin
  have h1 : p[i]? = some ((j : Int) + 1) := by rw [List.getElem?_eq_getElem hi, he]
  refine ⟨i, hi, h1, ?_⟩
  have := invL_at h hi h1
  rwa [show ((j : Int) + 1).toNat - 1 = j by omega] at this
/-- A list is the inverse if it has the inverse's places. -/
theorem invL_of {p q : List Int} (h : isP p = true) (hl : q.length = p.length) (hq : ∀ (i : Nat) (z : Int), p[i]? = some z → q[z.toNat - 1]? = some ((i : Int) + 1)) : invL p = q := by
  refine List.ext_getElem? fun j => ?_
  by_cases hj : j < p.length
  · obtain ⟨i, hi, h1, h2⟩ := invL_get h hj
    have := hq i _ h1
    rw [show ((j : Int) + 1).toNat - 1 = j by omega] at this
    rw [h2, this]
  · rw [List.getElem?_eq_none (by rw [invL_length]; omega), List.getElem?_eq_none (by omega)]
theorem inv_inv {p : List Int} (h : isP p = true) : invL (invL p) = p := by
  refine invL_of (invL_isP h) (invL_length p).symm fun j z hz => ?_
  have hj : j < p.length := by have := (List.getElem?_eq_some_iff.1 hz).1; rwa [invL_length] at this
  obtain ⟨i, hi, h1, h2⟩ := invL_get h hj
  rw [h2] at hz
  obtain rfl := Option.some.inj hz
  rw [show ((i : Int) + 1).toNat - 1 = i by omega, h1]
theorem inv_rev {p : List Int} (h : isP p = true) : invL p.reverse = cplL (invL p) := by
  refine invL_of (isP_rev h) (by rw [cplL_length, invL_length, List.length_reverse]) fun i z hz => ?_
  have hi : i < p.length := by have := (List.getElem?_eq_some_iff.1 hz).1; rwa [List.length_reverse] at this
  rw [List.getElem?_reverse hi] at hz
  have h1 := invL_at h (by omega) hz
  rw [cplL_at h1, invL_length]
  congr 1
  omega
theorem inv_cpl {p : List Int} (h : isP p = true) : invL (cplL p) = (invL p).reverse := by
  refine invL_of (isP_cpl h) (by rw [cplL_length, List.length_reverse, invL_length]) fun i z hz => ?_
  have hi : i < p.length := by have := (List.getElem?_eq_some_iff.1 hz).1; rwa [cplL_length] at this
  have hp := at0_some hi
  rw [cplL_at hp] at hz
  obtain rfl := Option.some.inj hz
  have hr := isP_range h hp
  have h1 := invL_at h hi hp
  rw [List.getElem?_reverse (by rw [invL_length]; omega), invL_length]
  rw [show p.length - 1 - (((p.length : Int) + 1 - at0 p i).toNat - 1) = (at0 p i).toNat - 1 by omega]
  exact h1
theorem cpl_rev (p : List Int) : cplL p.reverse = (cplL p).reverse := by
  unfold cplL
  rw [List.length_reverse, List.map_reverse]

/-- The steps on the numbers of the symmetries. -/
def sI (k : Nat) : Nat := (if 4 ≤ k then 2 else 0) + (if k / 2 % 2 = 1 then 4 else 0) + (if k % 2 = 1 then 0 else 1)
def sR (k : Nat) : Nat := if k / 2 % 2 = 1 then k - 2 else k + 2
def sC (k : Nat) : Nat := if 4 ≤ k then k - 4 else k + 4
def mulS (k j : Nat) : Nat :=
  let a := if j % 2 = 1 then sI k else k
  let b := if j / 2 % 2 = 1 then sR a else a
  if 4 ≤ j then sC b else b
theorem mulS_lt : ∀ k, k < 8 → ∀ j, j < 8 → mulS k j < 8 := by decide
theorem sym_list (p : List Int) : symL p 0 = p ∧ symL p 1 = invL p ∧ symL p 2 = p.reverse ∧ symL p 3 = (invL p).reverse ∧ symL p 4 = cplL p ∧ symL p 5 = cplL (invL p) ∧ symL p 6 = cplL p.reverse ∧ symL p 7 = cplL (invL p).reverse := by
  refine ⟨?_, ?_, ?_, ?_, ?_, ?_, ?_, ?_⟩ <;> simp [symL, sym2, sym1, invL]
theorem inv_sym {p : List Int} (h : isP p = true) : ∀ k, k < 8 → invL (symL p k) = symL p (sI k) := by
  obtain ⟨e0, e1, e2, e3, e4, e5, e6, e7⟩ := sym_list p
  have hi := invL_isP h
  intro k hk
  rcases (show k = 0 ∨ k = 1 ∨ k = 2 ∨ k = 3 ∨ k = 4 ∨ k = 5 ∨ k = 6 ∨ k = 7 by omega) with rfl | rfl | rfl | rfl | rfl | rfl | rfl | rfl
  · rw [e0, show sI 0 = 1 from rfl, e1]
  · rw [e1, show sI 1 = 0 from rfl, e0, inv_inv h]
  · rw [e2, show sI 2 = 5 from rfl, e5, inv_rev h]
  · rw [e3, show sI 3 = 4 from rfl, e4, inv_rev hi, inv_inv h]
  · rw [e4, show sI 4 = 3 from rfl, e3, inv_cpl h]
  · rw [e5, show sI 5 = 2 from rfl, e2, inv_cpl hi, inv_inv h]
  · rw [e6, show sI 6 = 7 from rfl, e7, inv_cpl (isP_rev h), inv_rev h, cpl_rev]
  · rw [e7, show sI 7 = 6 from rfl, e6, inv_cpl (isP_rev hi), inv_rev hi, inv_inv h, cpl_rev]
theorem rev_sym (p : List Int) : ∀ k, k < 8 → (symL p k).reverse = symL p (sR k) := by
  obtain ⟨e0, e1, e2, e3, e4, e5, e6, e7⟩ := sym_list p
  intro k hk
  rcases (show k = 0 ∨ k = 1 ∨ k = 2 ∨ k = 3 ∨ k = 4 ∨ k = 5 ∨ k = 6 ∨ k = 7 by omega) with rfl | rfl | rfl | rfl | rfl | rfl | rfl | rfl
  · rw [e0, show sR 0 = 2 from rfl, e2]
  · rw [e1, show sR 1 = 3 from rfl, e3]
  · rw [e2, show sR 2 = 0 from rfl, e0, List.reverse_reverse]
  · rw [e3, show sR 3 = 1 from rfl, e1, List.reverse_reverse]
  · rw [e4, show sR 4 = 6 from rfl, e6, cpl_rev]
  · rw [e5, show sR 5 = 7 from rfl, e7, cpl_rev]
  · rw [e6, show sR 6 = 4 from rfl, e4, cpl_rev, List.reverse_reverse]
  · rw [e7, show sR 7 = 5 from rfl, e5, cpl_rev, List.reverse_reverse]
theorem cpl_sym (p : List Int) : ∀ k, k < 8 → cplL (symL p k) = symL p (sC k) := by
  obtain ⟨e0, e1, e2, e3, e4, e5, e6, e7⟩ := sym_list p
  intro k hk
  rcases (show k = 0 ∨ k = 1 ∨ k = 2 ∨ k = 3 ∨ k = 4 ∨ k = 5 ∨ k = 6 ∨ k = 7 by omega) with rfl | rfl | rfl | rfl | rfl | rfl | rfl | rfl
  · rw [e0, show sC 0 = 4 from rfl, e4]
  · rw [e1, show sC 1 = 5 from rfl, e5]
  · rw [e2, show sC 2 = 6 from rfl, e6]
  · rw [e3, show sC 3 = 7 from rfl, e7]
  · rw [e4, show sC 4 = 0 from rfl, e0, cpl_cpl]
  · rw [e5, show sC 5 = 1 from rfl, e1, cpl_cpl]
  · rw [e6, show sC 6 = 2 from rfl, e2, cpl_cpl]
  · rw [e7, show sC 7 = 3 from rfl, e3, cpl_cpl]
theorem sI_lt : ∀ k, k < 8 → sI k < 8 := by decide
theorem sR_lt : ∀ k, k < 8 → sR k < 8 := by decide
/-- A symmetry of a symmetry. -/
theorem sym_sym {p : List Int} (h : isP p = true) {k j : Nat} (hk : k < 8) (_hj : j < 8) : symL (symL p k) j = symL p (mulS k j) := by
  have e1 : sym1 (symL p k) j = symL p (if j % 2 = 1 then sI k else k) := by
    unfold sym1
    split
    · exact inv_sym h k hk
    · rfl
  have l1 : (if j % 2 = 1 then sI k else k) < 8 := by
    split
    · exact sI_lt k hk
    · exact hk
  have e2 : sym2 (symL p k) j = symL p (if j / 2 % 2 = 1 then sR (if j % 2 = 1 then sI k else k) else (if j % 2 = 1 then sI k else k)) := by
    unfold sym2
    rw [e1]
    by_cases hb : j / 2 % 2 = 1
    · rw [if_pos hb, if_pos hb]; exact rev_sym p _ l1
    · rw [if_neg hb, if_neg hb]
  have l2 : (if j / 2 % 2 = 1 then sR (if j % 2 = 1 then sI k else k) else (if j % 2 = 1 then sI k else k)) < 8 := by
    by_cases hb : j / 2 % 2 = 1
    · rw [if_pos hb]; exact sR_lt _ l1
    · rw [if_neg hb]; exact l1
  have e3 : symL (symL p k) j = if 4 ≤ j then cplL (sym2 (symL p k) j) else sym2 (symL p k) j := rfl
  rw [e3, e2]
  by_cases hb : 4 ≤ j
  · rw [if_pos hb, cpl_sym p _ l2]
    congr 1
    simp only [mulS]
    rw [if_pos hb]
  · rw [if_neg hb]
    congr 1
    simp only [mulS]
    rw [if_neg hb]
theorem mulS_onto : ∀ k, k < 8 → ∀ i, i < 8 → ∃ j, j < 8 ∧ mulS k j = i := by decide
theorem mem_imgs {p x : List Int} : x ∈ imgs p 8 ↔ ∃ j, j < 8 ∧ symL p j = x := by
  unfold imgs
  simp [List.mem_map, List.mem_range]
theorem mem_cls {p x : List Int} (h : isP p = true) : x ∈ clsR p ↔ ∃ j, j < 8 ∧ symL p j = x := by
  rw [clsR_yes h, ordR_yes (imgs_all h 8), ordL_mem, List.take_length, mem_imgs]
theorem asc_cls {p : List Int} (h : isP p = true) : Asc (clsR p) := by
  rw [clsR_yes h, ordR_yes (imgs_all h 8)]
  exact ordL_asc _ _
theorem cls_sym {p : List Int} (h : isP p = true) {k : Nat} (hk : k < 8) : clsR (symL p k) = clsR p := by
  refine asc_unique (asc_cls (symL_isP h k)) (asc_cls h) fun x => ?_
  rw [mem_cls (symL_isP h k), mem_cls h]
  constructor
  · rintro ⟨j, hj, rfl⟩
    exact ⟨mulS k j, mulS_lt k hk j hj, (sym_sym h hk hj).symm⟩
  · rintro ⟨i, hi, rfl⟩
    obtain ⟨j, hj, e⟩ := mulS_onto k hk i hi
    exact ⟨j, hj, by rw [sym_sym h hk hj, e]⟩
/-- The number of the inverse symmetry. -/
def invS (k : Nat) : Nat := if k = 3 then 5 else if k = 5 then 3 else k
theorem mulS_inv : ∀ k, k < 8 → mulS k (invS k) = 0 := by decide
theorem invS_lt : ∀ k, k < 8 → invS k < 8 := by decide
theorem mulS_back : ∀ k, k < 8 → ∀ j, j < 8 → mulS (mulS j (invS k)) k = j := by decide
theorem mulS_zero : ∀ k, k < 8 → mulS 0 k = k := by decide
/-- Two images are the same exactly if one symmetry leaves the permutation as it is. -/
theorem sym_eq {p : List Int} (h : isP p = true) {i j : Nat} (hi : i < 8) (hj : j < 8) : symL p i = symL p j ↔ symL p (mulS j (invS i)) = p := by
  have hii := invS_lt i hi
  constructor
  · intro e
    rw [← sym_sym h hj hii, ← e, sym_sym h hi hii, mulS_inv i hi]
    exact (sym_list p).1
  · intro e
    have h2 := mulS_lt j hj _ hii
    have h3 := sym_sym h h2 hi
    rw [e, mulS_back i hi j hj] at h3
    exact h3
/-- The numbers of the first images. -/
def firsts (e : Nat → Bool) : List Nat := (List.range 8).filter fun j => (List.range j).all fun i => !e (mulS j (invS i))
def tab (b0 b1 b2 b3 b4 b5 b6 b7 : Bool) (k : Nat) : Bool := [b0, b1, b2, b3, b4, b5, b6, b7].getD k false
theorem div8 : ∀ b1 b2 b3 b4 b5 b6 b7 : Bool, (∀ i, i < 8 → ∀ j, j < 8 → tab true b1 b2 b3 b4 b5 b6 b7 i = true → tab true b1 b2 b3 b4 b5 b6 b7 j = true → tab true b1 b2 b3 b4 b5 b6 b7 (mulS i j) = true) →
    8 % (firsts (tab true b1 b2 b3 b4 b5 b6 b7)).length = 0 := by decide +kernel
theorem cls_div {p : List Int} (h : isP p = true) : 0 < (clsR p).length ∧ 8 % (clsR p).length = 0 := by
  refine ⟨List.length_pos_iff.2 (clsR_ne h), ?_⟩
  obtain ⟨e, he⟩ : ∃ e : Nat → Bool, e = fun k => decide (symL p k = p) := ⟨_, rfl⟩
  have hE : ∀ k, e k = true ↔ symL p k = p := fun k => by rw [he]; simp
  -- the first images are the class
  have hperm : (clsR p).Perm ((firsts e).map fun j => symL p j) := by
    have hn1 : (clsR p).Nodup := by
      rw [List.nodup_iff_pairwise_ne]
      exact (asc_cls h).imp fun hab e => by subst e; rw [befL_irrefl] at hab; cases hab
    have hn2 : ((firsts e).map fun j => symL p j).Nodup := by
      rw [List.nodup_iff_pairwise_ne, List.pairwise_map]
      unfold firsts
      have hlt : ((List.range 8).filter fun j => (List.range j).all fun i => !e (mulS j (invS i))).Pairwise (· < ·) := List.pairwise_lt_range.sublist List.filter_sublist
      refine hlt.imp_of_mem fun {i j} hi hj hij heq => ?_
      have hi8 := List.mem_range.1 (List.mem_filter.1 hi).1
      have hj8 := List.mem_range.1 (List.mem_filter.1 hj).1
      have hall := (List.mem_filter.1 hj).2
      rw [List.all_eq_true] at hall
      have h2 := hall i (List.mem_range.2 hij)
      have h3 := (hE _).2 ((sym_eq h hi8 hj8).1 heq)
      rw [h3] at h2
      cases h2
    refine (List.perm_ext_iff_of_nodup hn1 hn2).2 fun x => ?_
    rw [mem_cls h, List.mem_map]
    constructor
    · rintro ⟨j, hj, rfl⟩
      -- the least number with this image
      have hleast : ∀ n, ∀ j, j ≤ n → j < 8 → ∃ i, i ∈ firsts e ∧ symL p i = symL p j := fun n => by
        induction n with
        | zero =>
          intro j hj _
          obtain rfl : j = 0 := by omega
          exact ⟨0, by simp [firsts, List.mem_filter], rfl⟩
        | succ n ih =>
          intro j hj hj8
          by_cases hf : j ∈ firsts e
          · exact ⟨j, hf, rfl⟩
          · have : ∃ i, i < j ∧ e (mulS j (invS i)) = true := by
              refine Classical.byContradiction fun hc => hf ?_
              refine List.mem_filter.2 ⟨List.mem_range.2 hj8, ?_⟩
              rw [List.all_eq_true]
              intro i hi
              cases hb : e (mulS j (invS i)) with
              | false => rfl
              | true => exact absurd ⟨i, List.mem_range.1 hi, hb⟩ hc
            obtain ⟨i, hij, hb⟩ := this
            obtain ⟨i', h1, h2⟩ := ih i (by omega) (by omega)
            exact ⟨i', h1, h2.trans ((sym_eq h (by omega) hj8).2 ((hE _).1 hb))⟩
      obtain ⟨i, h1, h2⟩ := hleast j j (Nat.le_refl _) hj
      exact ⟨i, h1, h2⟩
    · rintro ⟨i, hi, rfl⟩
      exact ⟨i, List.mem_range.1 (List.mem_filter.1 hi).1, rfl⟩
  rw [hperm.length_eq, List.length_map]
  -- the numbers that leave p as it is are closed
  have hclosed : ∀ i, i < 8 → ∀ j, j < 8 → e i = true → e j = true → e (mulS i j) = true := fun i hi j hj h1 h2 => by
    rw [hE] at h1 h2 ⊢
    rw [← sym_sym h hi hj, h1, h2]
  have htab : ∀ k, k < 8 → tab true (e 1) (e 2) (e 3) (e 4) (e 5) (e 6) (e 7) k = e k := fun k hk => by
    have e0 : e 0 = true := (hE 0).2 (sym_list p).1
    rcases (show k = 0 ∨ k = 1 ∨ k = 2 ∨ k = 3 ∨ k = 4 ∨ k = 5 ∨ k = 6 ∨ k = 7 by omega) with rfl | rfl | rfl | rfl | rfl | rfl | rfl | rfl
    · exact e0.symm
    all_goals rfl
  have hfe : firsts e = firsts (tab true (e 1) (e 2) (e 3) (e 4) (e 5) (e 6) (e 7)) := by
    unfold firsts
    refine List.filter_congr fun j hj => ?_
    have hj8 := List.mem_range.1 hj
    rw [Bool.eq_iff_iff, List.all_eq_true, List.all_eq_true]
    refine forall_congr' fun i => ?_
    constructor
    · intro h1 hi
      rw [htab _ (mulS_lt j hj8 _ (invS_lt i (by have := List.mem_range.1 hi; omega)))]
      exact h1 hi
    · intro h1 hi
      rw [← htab _ (mulS_lt j hj8 _ (invS_lt i (by have := List.mem_range.1 hi; omega)))]
      exact h1 hi
  rw [hfe]
  refine div8 _ _ _ _ _ _ _ fun i hi j hj h1 h2 => ?_
  rw [htab i hi] at h1
  rw [htab j hj] at h2
  rw [htab _ (mulS_lt i hi j hj)]
  exact hclosed i hi j hj h1 h2
end Go.Proofs.YtplchjeamooliaaGreatDoor


/-
  PLAIN: a permutation is parsed from its text, is undone by its inverse, is its own pattern.
-/

namespace Go.Proofs.YtplchjeamooliaaGreatDoor
set_option maxRecDepth 100000

theorem comp_inv {p : List Int} (h : isP p = true) : compOK p (invL p) = true ∧ compR p (invL p) = upTo p.length := by
  have hok := compOK_yes h (invL_isP h) (invL_length p).symm
  refine ⟨hok, ?_⟩
  rw [compR_yes hok, invL_length]
  refine List.ext_getElem? fun j => ?_
  by_cases hj : j < p.length
  · obtain ⟨i, hi, h1, h2⟩ := invL_get h hj
    rw [compL_at hj h2 (y := (j : Int) + 1) (by rw [show ((i : Int) + 1).toNat - 1 = i by omega]; exact h1)]
    unfold upTo
    rw [List.getElem?_map, List.getElem?_range hj]
    rfl
  · rw [List.getElem?_eq_none (by rw [compL_length]; omega), List.getElem?_eq_none (by rw [upTo_length]; omega)]
theorem invR_inv {p : List Int} (h : isP p = true) : invR p = invL p := by rw [invR_yes h]; rfl
theorem pat_self {p : List Int} (h : isP p = true) : patOK p = true ∧ patR p = p := by
  have hok := patOK_yes (isP_le h) (isP_true.1 h).2.2
  refine ⟨hok, ?_⟩
  rw [patR_yes hok]
  unfold patL
  refine (List.map_congr_left fun v hv => ?_).trans (List.map_id _)
  have := cnt_isP h hv
  simp only [id]; omega
theorem nums_text {p : List Int} (h : isP p = true) : tnums ⟨(textL p).toArray⟩ = p := by
  unfold tnums textL
  rw [List.map_map]
  refine (List.map_congr_left fun z hz => ?_).trans (List.map_id _)
  have hr := (isP_true.1 h).2.1 z hz
  have h8 := isP_le h
  simp only [Function.comp, id, dgt]
  rw [UInt8.toNat_ofNat']
  omega
theorem pp_text (p : List Int) : ppOK (ptext p) = isP p ∧ (isP p = true → ppR (ptext p) = p) := by
  cases h : isP p with
  | false =>
    rw [ptext_no h]
    refine ⟨?_, fun e => by cases e⟩
    exact ppOK_none (by decide) rfl
  | true =>
    by_cases h0 : p.length = 0
    · rw [ptext_nil h h0, List.eq_nil_of_length_eq_zero h0]
      exact ⟨ppOK_dash, fun _ => ppR_dash⟩
    · have hn := nums_text h
      rw [ptext_yes h h0]
      have hne : (⟨(textL p).toArray⟩ : ByteArray) ≠ ⟨#[45]⟩ := fun e => by
        rw [e] at hn
        have h1 : p = [-3] := by rw [← hn]; decide
        rw [h1] at h
        revert h
        decide
      have hsz : 0 < (⟨(textL p).toArray⟩ : ByteArray).size := by
        rw [← tnums_length, hn]; omega
      have hok : ppOK ⟨(textL p).toArray⟩ = true := by rw [ppOK_else hne hsz, hn, h]
      exact ⟨hok, fun _ => by rw [ppR_yes hne hok, hn]⟩
theorem ptext_size (p : List Int) : (ptext p).size ≤ 8 := by
  cases h : isP p with
  | false => rw [ptext_no h]; decide
  | true =>
    by_cases h0 : p.length = 0
    · rw [ptext_nil h h0]; decide
    · rw [ptext_yes h h0]
      show (textL p).toArray.size ≤ 8
      rw [List.size_toArray, textL_length]
      exact isP_le h
end Go.Proofs.YtplchjeamooliaaGreatDoor


/-
  spec.l1Turned, spec.DrawParsePerm, by their contracts.
-/

namespace Go.Proofs.YtplchjeamooliaaGreatDoor
set_option maxRecDepth 100000
open Go.RowKit

def Brief (L : Nat) (v : Value) : Prop := ∃ r : ByteArray, v = .string r ∧ r.size ≤ L
set_option maxHeartbeats 1600000 in
theorem turned_any (B cb g nn c : Nat) (ss : List ByteArray) (s : ByteArray) (w : World) (hc : Cur w B cb) (hl : Blk w g 9 (ss.map Value.string).toArray) (hne : g ≠ cb) (hn : ss.length = nn) (h0 : 0 < nn) (h1 : nn ≤ 1048576) (hs : s.size ≤ 100) (hss : ∀ t ∈ ss, t.size ≤ 100) :
    Calls Tryz.prog 31 #[.pointer (some ⟨cb, 0, none⟩), .string s, .slice (some ⟨g, 0, none⟩) nn c] w (Drawn B cb w (Brief 300)) := by
  have hS := Side.start hc
  have H1 := hide (below_any B cb ((s.size : Int) + 1) (by omega) w hc)
  have HL := hide hl
  have HN := hide hn
  have HSS := hide hss
  clear hc hl hn hss
  go_enter Tryz.func31, Tryz.ntmps31
  go_wp2_with fail
  refine (unhide H1).mono ?_
  rintro e w1 ⟨v, rfl, ⟨x, rfl, hx0, hx1⟩, hc1, hg1⟩
  rw [if_pos (by omega)] at hx1
  obtain ⟨m, rfl⟩ : ∃ m : Nat, x = m := ⟨x.toNat, by omega⟩
  have hm : m ≤ s.size := by omega
  have hm' : (m : Int) ≤ (s.size : Int) := by omega
  have hS1 := hS.drawn hc1 hg1
  have hl1 := (unhide HL).grown hg1 (by simpa using hne)
  have H2 := hide (below_any B cb 6 (by omega) w1 hc1)
  clear H1 hS hc1 hg1 hx0 hx1 HL
  go_wp2_with fail
  refine (unhide H2).mono ?_
  rintro e w2 ⟨v, rfl, ⟨y, rfl, hy0, hy1⟩, hc2, hg2⟩
  have hS2 := hS1.drawn hc2 hg2
  have hl2 := hl1.grown hg2 (by simpa using hne)
  clear H2 hS1 hg2 hl1
  by_cases h0y : y = 0
  · subst h0y
    have H3 := hide (fun w' (hc : Cur w' B cb) (hl : Blk w' g 9 (ss.map Value.string).toArray) => pick_any B cb g nn c ss w' hc hl hne (unhide HN) h0 h1)
    have hb0 := Below.refl w2.heap.size w2
    have z1 : (s.extract 0 m).size = m := by rw [ByteArray.size_extract]; omega
    have z2 : (s.extract m s.size).size = s.size - m := by rw [ByteArray.size_extract]; omega
    go_wp2
    go_region_held3 (fun _ => True) (trivial)
      (first
        | (go_simp; go_at_call 77; refine (unhide H3 _ (by exact hc2) (by exact hl2)).mono ?_; rintro e w3 ⟨v, rfl, ⟨t, ht, rfl⟩, hc3, hg3⟩; have htz := unhide HSS t ht; have hn1 : ¬ 9223372036854775807 < m + t.size := (by omega); have hn2 : ¬ 9223372036854775807 < m + t.size + (s.size - m) := (by omega); clear ht))
    have hS3 := (hS2.below hb0.drew).drawn hc3 hg3
    have HS := hide hS3
    have hz : ((s.extract 0 m ++ t) ++ s.extract m s.size).size ≤ 300 := by rw [ByteArray.size_append, ByteArray.size_append, z1, z2]; omega
    clear hS3 hS2 hc3 hg3
    go_wp2
    go_ret
    exact ⟨_, rfl, ⟨_, rfl, hz⟩, (unhide HS).cur, (unhide HS).gr⟩
  · by_cases h1y : y = 1
    · subst h1y
      have HS := hide hS2
      clear hS2 hc2 hl2
      go_wp2
      go_ret
      exact ⟨_, rfl, ⟨_, rfl, by simp [ByteArray.size_extract]; omega⟩, (unhide HS).cur, (unhide HS).gr⟩
    · have HS := hide hS2
      clear hS2 hc2 hl2
      go_wp2
      go_ret
      exact ⟨_, rfl, ⟨_, rfl, by omega⟩, (unhide HS).cur, (unhide HS).gr⟩

def digits5 : List ByteArray := [⟨#[49]⟩, ⟨#[50]⟩, ⟨#[45]⟩, ⟨#[57]⟩, ⟨#[48]⟩]
theorem digits5_short : ∀ t ∈ digits5, t.size ≤ 100 := by
  intro t ht
  simp only [digits5, List.mem_cons, List.not_mem_nil, or_false] at ht
  rcases ht with rfl | rfl | rfl | rfl | rfl <;> decide
end Go.Proofs.YtplchjeamooliaaGreatDoor


/-
  WORDS: 'out = append(out, list...)', list a list of rows made since. Nothing here speaks of a function of the program.
-/

namespace Go.Proofs.YtplchjeamooliaaGreatDoor
set_option maxRecDepth 100000
open Go.RowKit

theorem Inner.join {w : World} {B : Nat} {vs us : List Value} {Z U : List (List Int)} (h : Inner w B vs Z) (k : Inner w B us U) (ha : ∀ x ∈ vs, ∀ y ∈ us, Away x y) : Inner w B (vs ++ us) (Z ++ U) := by
  refine ⟨by simp [h.len, k.len], fun i x ys hx hy => ?_, ?_⟩
  · have hl := h.len
    by_cases hi : i < vs.length
    · rw [List.getElem?_append_left hi] at hx
      rw [List.getElem?_append_left (by omega)] at hy
      exact h.row i x ys hx hy
    · rw [List.getElem?_append_right (by omega)] at hx
      rw [List.getElem?_append_right (by omega), ← hl] at hy
      exact k.row _ x ys hx hy
  · rw [List.pairwise_append]
    exact ⟨h.away, k.away, ha⟩
theorem own_nil {w : World} {B n c : Nat} {A : Option Addr} {e : TypeId} {xs : List Value} (h : w.ownsRow B e 1 (.slice A n c) n xs) : A = none → c = 0 := fun hA => by
  rcases h.2 with ⟨hv, _⟩ | ⟨g, cap, cur, hv, _⟩
  · injection hv
  · injection hv with h1; rw [h1] at hA; cases hA
theorem wpList_append_lists {ops : Array Oper} {rest : List Oper} {o : Oper} {a : Act} {Q : Exit → Act → World → Prop} (hgd : o.guard = none) (s x : Operand)
    (ho : o.op = .call { callee := .builtin .append, args := #[s, x], argTypes := #[24, 24] })
    (B : Nat) (W0 w0 wr : World) (v : Value) (A : Option Addr) (n c : Nat) (U Z : List (List Int)) (hs : a.eval s = v) (hx : a.eval x = .slice A n c)
    (hS : IntsS w0 B v U) (hb0 : Below w0.heap.size w0 wr) (hZ : IntsS wr w0.heap.size (.slice A n c) Z) (hU : U.length ≤ 1048576) (hn : n ≤ 1048576) (hb : Below B W0 wr) (hB : B ≤ w0.heap.size)
    (K : ∀ v' w', IntsS w' B v' (U ++ Z) → Below B W0 w' → wpList Tryz.prog ops Q rest (a.put o.dst v') w') : wpList Tryz.prog ops Q (o :: rest) a wr := by
  have hl := hZ.len
  subst hl
  obtain ⟨vs, h1, h2⟩ := hS
  obtain ⟨us, k1, k2⟩ := hZ
  have h3 := own_below h1 hb0
  have h4 := h2.keepI (KeepI.of_below hb0)
  have hr := Reads.of_own_at k1
  refine wpList_append_rows hgd s x ho B wr.heap.size U.length Z.length c W0 v A vs us hs hx h3 hr (own_nil k1) (fun u hu => ?_) (by omega) (by omega) hb (Nat.le_trans hB hb0.size) ?_
  · obtain ⟨z, hz⟩ := k2.mem hu
    obtain ⟨A9, c9, rfl⟩ := hz.slice
    rfl
  · intro v' w' o1 o2 o3 _
    have hk := KeepI.of_grown h3 o3
    refine K v' w' ⟨vs ++ us, by rw [List.length_append]; exact o1, (h4.keepI hk).join ((k2.keepI hk).low hB) fun x hx y hy => ?_⟩ o2
    obtain ⟨z, hz⟩ := k2.mem hy
    exact (h2.away_new hz.since (Nat.le_refl _)) x hx
end Go.Proofs.YtplchjeamooliaaGreatDoor


/-
  WORDS: 'out = append(out, list...)' beside other lists of rows. Nothing here speaks of a function of the program.
-/

namespace Go.Proofs.YtplchjeamooliaaGreatDoor
set_option maxRecDepth 100000
open Go.RowKit

theorem wpList_append_lists_at {ops : Array Oper} {rest : List Oper} {o : Oper} {a : Act} {Q : Exit → Act → World → Prop} (hgd : o.guard = none) (s x : Operand)
    (ho : o.op = .call { callee := .builtin .append, args := #[s, x], argTypes := #[24, 24] })
    (B : Nat) (W0 w0 wr : World) (v : Value) (A : Option Addr) (n c : Nat) (U Z : List (List Int)) (hs : a.eval s = v) (hx : a.eval x = .slice A n c)
    (hS : IntsS w0 B v U) (hb0 : Below w0.heap.size w0 wr) (hZ : IntsS wr w0.heap.size (.slice A n c) Z) (hU : U.length ≤ 1048576) (hn : n ≤ 1048576) (hb : Below B W0 wr) (hB : B ≤ w0.heap.size)
    (K : ∀ v' w', IntsS w' B v' (U ++ Z) → Below B W0 w' → (∀ (B9 : Nat) (v9 : Value) (Z9 : List (List Int)), IntsS wr B9 v9 Z9 → Away v9 v → IntsS w' B9 v9 Z9 ∧ Away v9 v') → wr.grownBy w' v.ownBlock → wpList Tryz.prog ops Q rest (a.put o.dst v') w') : wpList Tryz.prog ops Q (o :: rest) a wr := by
  have hl := hZ.len
  subst hl
  obtain ⟨vs, h1, h2⟩ := hS
  obtain ⟨us, k1, k2⟩ := hZ
  have h3 := own_below h1 hb0
  have h4 := h2.keepI (KeepI.of_below hb0)
  have hr := Reads.of_own_at k1
  obtain ⟨i0, hi, hz0, hz1, hz2⟩ := info_parts rowsInfo1
  cases A with
  | none =>
    obtain rfl : c = 0 := own_nil k1 rfl
    have hz : Z.length = 0 := by
      apply Classical.byContradiction
      intro h
      obtain ⟨ad, he, _⟩ := hr.2 (by omega)
      cases he
    obtain rfl := List.eq_nil_of_length_eq_zero hz
    simp only [List.length_nil] at hx
    have hrun := run_append_owned_none (P := Tryz.prog) (w := wr) B 24 o.type 27 i0 1 Tryz.underlying24 hi v U.length _ h3
    refine wpList_plain hgd fun K' hK' => ?_
    unfold Oper.wp execOp
    simp only [ho, resolve, invoke, builtin, Sem.run_bind, Sem.run_pure, Result.andThen_ok, List.map_toArray, List.map_cons, List.map_nil, hs, hx, hrun]
    exact hK' _ _ (K v wr (by rw [List.append_nil]; exact ⟨vs, h3, h4⟩) hb (fun _ _ _ h9 a9 => ⟨h9, a9⟩) (World.grownBy.refl wr _))
  | some ad =>
    refine wpList_append_own_at _ hgd s x 24 ho B 27 i0 (.slice none 0 0) 1 24 Tryz.underlying24 hi hz0 hz1 hz2 rfl (by decide) v _ _ hs h3 ad Z.length c us hx (by rw [hr.1]; omega) ?_ (fun u hu => ?_) (by unfold maxLen; omega) (by omega) (Nat.le_trans hB hb0.size) ?_
    · intro j u hu
      have hj : j < Z.length := by have := (List.getElem?_eq_some_iff.1 hu).1; have := hr.1; omega
      obtain ⟨ad', he, _, hc⟩ := hr.2 (by omega)
      injection he with he
      subst he
      exact hc j u hu
    · obtain ⟨z, hz⟩ := k2.mem hu
      obtain ⟨A9, c9, rfl⟩ := hz.slice
      rfl
    · intro v' w' o1 o2 _ o4
      have hk := KeepI.of_grown h3 o2
      refine K v' w' ⟨vs ++ us, by rw [List.length_append]; exact o1, (h4.keepI hk).join ((k2.keepI hk).low hB) fun x hx y hy => ?_⟩ (hb.grown o2 (Nat.le_trans hB hb0.size) (fun k hk => (h1.lt k hk).1)) ?_ o2
      · obtain ⟨z, hz⟩ := k2.mem hy
        exact (h2.away_new hz.since (Nat.le_refl _)) x hx
      · rintro B9 v9 Z9 ⟨us9, q1, q2⟩ a9
        refine ⟨⟨us9, q1.kept o2 a9, q2.keepI hk⟩, ?_⟩
        rcases o4 with o4 | o4
        · rcases a9 with a9 | a9
          · exact .inl a9
          · exact .inr (by rw [o4]; exact a9)
        · cases hl9 : v9.ownBlock with
          | none => exact .inl hl9
          | some g =>
            refine .inr ?_
            rw [hl9, o4]
            intro e
            have := (q1.lt g hl9).2
            injection e with e
            omega
/-- A list made since is away from what stood before. -/
theorem IntsS.away {w : World} {B B' : Nat} {u v : Value} {X Y : List (List Int)} (h : IntsS w B u X) (hu : ∀ g, v.ownBlock = some g → g < B) (_ : IntsS w B' v Y) : Away u v := by
  obtain ⟨us, h1, _⟩ := h
  cases hg : u.ownBlock with
  | none => exact .inl hg
  | some g =>
    refine .inr fun e => ?_
    rw [hg] at e
    have h2 := (h1.lt g hg).1
    have h3 := hu g e.symm
    omega
end Go.Proofs.YtplchjeamooliaaGreatDoor


/-
  PLAIN: intervals of a permutation, their list, closures. Nothing here speaks of the program.
-/

namespace Go.Proofs.YtplchjeamooliaaGreatDoor
set_option maxRecDepth 100000

/-- The least and the greatest number of a list. -/
def lo (l : List Int) : Int := l.foldl min 8
def hi (l : List Int) : Int := l.foldl max 1
theorem lo_nil : lo [] = 8 := rfl
theorem hi_nil : hi [] = 1 := rfl
theorem lo_snoc (l : List Int) (z : Int) : lo (l ++ [z]) = min (lo l) z := by simp [lo]
theorem hi_snoc (l : List Int) (z : Int) : hi (l ++ [z]) = max (hi l) z := by simp [hi]
theorem snoc_ind {P : List Int → Prop} (h0 : P []) (h1 : ∀ l z, P l → P (l ++ [z])) (l : List Int) : P l := by
  have : ∀ (n : Nat) (l : List Int), l.length = n → P l := fun n => by
    induction n with
    | zero => intro l hl; rw [List.eq_nil_of_length_eq_zero hl]; exact h0
    | succ n ih =>
      intro l hl
      have hne : l ≠ [] := fun e => by subst e; cases hl
      rw [← List.dropLast_concat_getLast hne]
      exact h1 _ _ (ih _ (by rw [List.length_dropLast]; omega))
  exact this _ l rfl
theorem lo_le (l : List Int) : (∀ x ∈ l, lo l ≤ x) ∧ lo l ≤ 8 := by
  induction l using snoc_ind with
  | h0 => simp [lo]
  | h1 l z ih =>
    rw [lo_snoc]
    refine ⟨fun x hx => ?_, by have := ih.2; omega⟩
    rcases List.mem_append.1 hx with hx | hx
    · have := ih.1 x hx; omega
    · rw [List.mem_singleton] at hx; subst hx; omega
theorem le_hi (l : List Int) : (∀ x ∈ l, x ≤ hi l) ∧ 1 ≤ hi l := by
  induction l using snoc_ind with
  | h0 => simp [hi]
  | h1 l z ih =>
    rw [hi_snoc]
    refine ⟨fun x hx => ?_, by have := ih.2; omega⟩
    rcases List.mem_append.1 hx with hx | hx
    · have := ih.1 x hx; omega
    · rw [List.mem_singleton] at hx; subst hx; omega
theorem le_lo {l : List Int} {m : Int} (hm : m ≤ 8) : (∀ x ∈ l, m ≤ x) → m ≤ lo l := by
  induction l using snoc_ind with
  | h0 => intro _; exact hm
  | h1 l z ih =>
    intro h
    rw [lo_snoc]
    have h1 := ih fun x hx => h x (by simp [hx])
    have h2 := h z (by simp)
    omega
theorem hi_le {l : List Int} {m : Int} (hm : 1 ≤ m) : (∀ x ∈ l, x ≤ m) → hi l ≤ m := by
  induction l using snoc_ind with
  | h0 => intro _; exact hm
  | h1 l z ih =>
    intro h
    rw [hi_snoc]
    have h1 := ih fun x hx => h x (by simp [hx])
    have h2 := h z (by simp)
    omega

/-- m numbers from place a on. -/
def seg (p : List Int) (a m : Nat) : List Int := (p.drop a).take m
theorem seg_zero (p : List Int) (a : Nat) : seg p a 0 = [] := by simp [seg]
theorem seg_snoc {p : List Int} {a k : Nat} {z : Int} (h : p[a + k]? = some z) : seg p a (k + 1) = seg p a k ++ [z] := by
  unfold seg
  rw [List.take_add_one, List.getElem?_drop, h]; rfl
theorem seg_one {p : List Int} {a : Nat} {z : Int} (h : p[a]? = some z) : seg p a 1 = [z] := by
  have := seg_snoc (p := p) (a := a) (k := 0) h
  rwa [seg_zero, List.nil_append] at this
theorem seg_length {p : List Int} {a m : Nat} (h : a + m ≤ p.length) : (seg p a m).length = m := by unfold seg; rw [List.length_take, List.length_drop]; omega
theorem mem_seg {p : List Int} {a m : Nat} {x : Int} : x ∈ seg p a m ↔ ∃ j, a ≤ j ∧ j < a + m ∧ p[j]? = some x := by
  unfold seg
  rw [List.mem_iff_getElem?]
  constructor
  · rintro ⟨i, hi⟩
    have hm : i < m := by have := (List.getElem?_eq_some_iff.1 hi).1; rw [List.length_take] at this; omega
    rw [List.getElem?_take_of_lt hm, List.getElem?_drop] at hi
    exact ⟨a + i, by omega, by omega, hi⟩
  · rintro ⟨j, h1, h2, h3⟩
    refine ⟨j - a, ?_⟩
    rw [List.getElem?_take_of_lt (by omega), List.getElem?_drop, show a + (j - a) = j by omega]
    exact h3
theorem seg_sub {p : List Int} {a m : Nat} {x : Int} (h : x ∈ seg p a m) : x ∈ p := by
  obtain ⟨j, _, _, h⟩ := mem_seg.1 h
  exact List.mem_of_getElem? h
theorem seg_nodup {p : List Int} {a m : Nat} (h : p.Nodup) : (seg p a m).Nodup := (h.sublist (List.drop_sublist _ _)).sublist (List.take_sublist _ _)
theorem seg_all (p : List Int) : seg p 0 p.length = p := by simp [seg]

/-- The numbers from x on, m of them. -/
def frm' (x : Int) (m : Nat) : List Int := (List.range m).map fun j : Nat => x + (j : Int)
theorem frm'_length (x : Int) (m : Nat) : (frm' x m).length = m := by simp [frm']
theorem mem_frm' {x y : Int} {m : Nat} : y ∈ frm' x m ↔ x ≤ y ∧ y < x + m := by
  unfold frm'
  rw [List.mem_map]
  constructor
  · rintro ⟨j, hj, rfl⟩
    have := List.mem_range.1 hj
    omega
  · rintro ⟨h1, h2⟩
    exact ⟨(y - x).toNat, List.mem_range.2 (by omega), by omega⟩
theorem frm'_nodup (x : Int) (m : Nat) : (frm' x m).Nodup := by
  unfold frm'
  rw [List.nodup_iff_pairwise_ne, List.pairwise_map]
  exact List.nodup_range.imp fun h e => h (by omega)
/-- As many different ones as there are places: every one is there. -/
theorem pigeon_all {l m : List Int} (hnd : l.Nodup) (h : ∀ x ∈ l, x ∈ m) (hl : m.length ≤ l.length) : ∀ x ∈ m, x ∈ l := fun x hx => by
  by_cases hin : x ∈ l
  · exact hin
  · have := pigeon_le (l := x :: l) (m := m) (List.nodup_cons.2 ⟨hin, hnd⟩) (fun y hy => by
      rcases List.mem_cons.1 hy with rfl | hy
      · exact hx
      · exact h y hy)
    rw [List.length_cons] at this
    omega

/-- The k + 1 places from a on are an interval. -/
def iv (p : List Int) (a k : Nat) : Bool := decide (hi (seg p a (k + 1)) - lo (seg p a (k + 1)) = (k : Int))
theorem iv_true {p : List Int} {a k : Nat} : iv p a k = true ↔ hi (seg p a (k + 1)) - lo (seg p a (k + 1)) = (k : Int) := by simp [iv]
section
variable {p : List Int} (h : isP p = true)
include h
theorem isP_at {k : Nat} (hk : k < p.length) : ∃ z, p[k]? = some z ∧ 1 ≤ z ∧ z ≤ (p.length : Int) := by
  have hz := at0_some hk
  exact ⟨_, hz, isP_range h hz⟩
theorem isP_nodup : p.Nodup := (isP_true.1 h).2.2
theorem isP_has {x : Int} (h1 : 1 ≤ x) (h2 : x ≤ (p.length : Int)) : x ∈ p := by
  have := (nodup_iff_all (isP_true.1 h).2.1).1 (isP_true.1 h).2.2 (x - 1).toNat (by omega)
  rwa [show (((x - 1).toNat : Nat) : Int) + 1 = x by omega] at this
theorem isP_same {i j : Nat} {z : Int} (hi : p[i]? = some z) (hj : p[j]? = some z) : i = j := by
  obtain ⟨h1, e1⟩ := List.getElem?_eq_some_iff.1 hi
  obtain ⟨h2, e2⟩ := List.getElem?_eq_some_iff.1 hj
  have hn := List.pairwise_iff_getElem.1 (List.nodup_iff_pairwise_ne.1 (isP_nodup h))
  by_cases h3 : i < j
  · exact absurd (e1.trans e2.symm) (hn i j h1 h2 h3)
  · by_cases h4 : j < i
    · exact absurd (e2.trans e1.symm) (hn j i h2 h1 h4)
    · omega
theorem seg_bounds (a m : Nat) : ∀ x ∈ seg p a m, 1 ≤ x ∧ x ≤ 8 := fun x hx => by
  obtain ⟨j, _, _, hj⟩ := mem_seg.1 hx
  have := isP_range h hj
  have := isP_le h
  omega
theorem lo_ge (a m : Nat) : 1 ≤ lo (seg p a m) := le_lo (by omega) fun x hx => (seg_bounds h a m x hx).1
theorem hi_le8 (a m : Nat) : hi (seg p a m) ≤ 8 := hi_le (by omega) fun x hx => (seg_bounds h a m x hx).2
/-- The numbers of a run of places lie between its least and its greatest one. -/
theorem seg_frm {a m : Nat} (hm : a + m ≤ p.length) (h0 : 0 < m) : (m : Int) ≤ hi (seg p a m) - lo (seg p a m) + 1 := by
  have h1 := pigeon_le (l := seg p a m) (m := frm' (lo (seg p a m)) (hi (seg p a m) - lo (seg p a m) + 1).toNat) (seg_nodup (isP_nodup h)) (fun x hx => mem_frm'.2 (by
    have h2 := (lo_le (seg p a m)).1 x hx
    have h3 := (le_hi (seg p a m)).1 x hx
    omega))
  rw [seg_length hm, frm'_length] at h1
  omega
theorem lo_in {a m : Nat} (hm : a + m ≤ p.length) (h0 : 0 < m) : lo (seg p a m) ∈ seg p a m := by
  have : ∀ l : List Int, (∀ x ∈ l, x ≤ 8) → l ≠ [] → lo l ∈ l := fun l => by
    induction l using snoc_ind with
    | h0 => intro _ e; exact absurd rfl e
    | h1 l z ih =>
      intro hb _
      rw [lo_snoc, List.mem_append, List.mem_singleton]
      by_cases hl : l = []
      · subst hl
        have := hb z (by simp)
        rw [lo_nil]; right; omega
      · have h1 := ih (fun x hx => hb x (by simp [hx])) hl
        by_cases hz : z < lo l
        · right; omega
        · left; rwa [show min (lo l) z = lo l by omega]
  refine this _ (fun x hx => (seg_bounds h a m x hx).2) fun e => ?_
  have := seg_length hm
  rw [e] at this
  simp at this
  omega
theorem hi_in {a m : Nat} (hm : a + m ≤ p.length) (h0 : 0 < m) : hi (seg p a m) ∈ seg p a m := by
  have : ∀ l : List Int, (∀ x ∈ l, 1 ≤ x) → l ≠ [] → hi l ∈ l := fun l => by
    induction l using snoc_ind with
    | h0 => intro _ e; exact absurd rfl e
    | h1 l z ih =>
      intro hb _
      rw [hi_snoc, List.mem_append, List.mem_singleton]
      by_cases hl : l = []
      · subst hl
        have := hb z (by simp)
        rw [hi_nil]; right; omega
      · have h1 := ih (fun x hx => hb x (by simp [hx])) hl
        by_cases hz : hi l < z
        · right; omega
        · left; rwa [show max (hi l) z = hi l by omega]
  refine this _ (fun x hx => (seg_bounds h a m x hx).1) fun e => ?_
  have := seg_length hm
  rw [e] at this
  simp at this
  omega
/-- An interval has every number between two of its own. -/
theorem iv_has {a k : Nat} (hk : a + k < p.length) (hv : iv p a k = true) {x : Int} (h1 : lo (seg p a (k + 1)) ≤ x) (h2 : x ≤ hi (seg p a (k + 1))) : x ∈ seg p a (k + 1) := by
  have e := iv_true.1 hv
  refine pigeon_all (m := frm' (lo (seg p a (k + 1))) (k + 1)) (seg_nodup (isP_nodup h)) (fun x hx => mem_frm'.2 ?_) (by rw [frm'_length, seg_length (by omega)]; exact Nat.le_refl _) x (mem_frm'.2 (by omega))
  have h2 := (lo_le (seg p a (k + 1))).1 x hx
  have h3 := (le_hi (seg p a (k + 1))).1 x hx
  omega
theorem iv_one {a : Nat} (ha : a < p.length) : iv p a 0 = true := by
  obtain ⟨z, hz, h1, h2⟩ := isP_at h ha
  have := isP_le h
  rw [iv_true, seg_one hz]
  simp only [lo, hi, List.foldl_cons, List.foldl_nil]
  omega
theorem iv_whole (h0 : 0 < p.length) : iv p 0 (p.length - 1) = true := by
  have h8 := isP_le h
  rw [iv_true, show p.length - 1 + 1 = p.length by omega, seg_all]
  have h1 := (lo_le p).1 1 (isP_has h (by omega) (by omega))
  have h2 := (le_hi p).1 (p.length : Int) (isP_has h (by omega) (by omega))
  have h3 := le_lo (l := p) (m := 1) (by omega) fun x hx => ((isP_true.1 h).2.1 x hx).1
  have h4 := hi_le (l := p) (m := (p.length : Int)) (by omega) fun x hx => ((isP_true.1 h).2.1 x hx).2
  omega
end

/-- The intervals from place a on, of at most k places; those from the first a places on. -/
def rowI (p : List Int) (a : Nat) : Nat → List (Int × Int)
  | 0 => []
  | k + 1 => rowI p a k ++ (if iv p a k then [((a : Int) + 1, (a : Int) + k + 1)] else [])
def ivK (p : List Int) : Nat → List (Int × Int)
  | 0 => []
  | a + 1 => ivK p a ++ rowI p a (p.length - a)
def ivL (p : List Int) : List (Int × Int) := ivK p p.length
theorem rowI_yes {p : List Int} {a k : Nat} (h : iv p a k = true) : rowI p a (k + 1) = rowI p a k ++ [((a : Int) + 1, (a : Int) + k + 1)] := by rw [rowI, if_pos h]
theorem rowI_no {p : List Int} {a k : Nat} (h : iv p a k = false) : rowI p a (k + 1) = rowI p a k := by rw [rowI, if_neg (by simp [h]), List.append_nil]
theorem mem_rowI {p : List Int} {a k : Nat} {x : Int × Int} : x ∈ rowI p a k ↔ ∃ j, j < k ∧ x = ((a : Int) + 1, (a : Int) + j + 1) ∧ iv p a j = true := by
  induction k with
  | zero => simp [rowI]
  | succ k ih =>
    cases hv : iv p a k with
    | true =>
      rw [rowI_yes hv, List.mem_append, ih, List.mem_singleton]
      constructor
      · rintro (⟨j, h1, h2⟩ | h1)
        · exact ⟨j, by omega, h2⟩
        · exact ⟨k, by omega, h1, hv⟩
      · rintro ⟨j, h1, h2, h3⟩
        by_cases hj : j = k
        · subst hj; exact .inr h2
        · exact .inl ⟨j, by omega, h2, h3⟩
    | false =>
      rw [rowI_no hv, ih]
      constructor
      · rintro ⟨j, h1, h2⟩; exact ⟨j, by omega, h2⟩
      · rintro ⟨j, h1, h2, h3⟩
        by_cases hj : j = k
        · subst hj; rw [hv] at h3; cases h3
        · exact ⟨j, by omega, h2, h3⟩
theorem mem_ivK {p : List Int} {m : Nat} {x : Int × Int} : x ∈ ivK p m ↔ ∃ a j, a < m ∧ a + j < p.length ∧ x = ((a : Int) + 1, (a : Int) + j + 1) ∧ iv p a j = true := by
  induction m with
  | zero => simp [ivK]
  | succ m ih =>
    rw [ivK, List.mem_append, ih, mem_rowI]
    constructor
    · rintro (⟨a, j, h1, h2⟩ | ⟨j, h1, h2⟩)
      · exact ⟨a, j, by omega, h2⟩
      · exact ⟨m, j, by omega, by omega, h2⟩
    · rintro ⟨a, j, h1, h2, h3⟩
      by_cases ha : a = m
      · subst ha; exact .inr ⟨j, by omega, h3⟩
      · exact .inl ⟨a, j, by omega, h2, h3⟩
theorem mem_ivL {p : List Int} {x : Int × Int} : x ∈ ivL p ↔ ∃ a j, a + j < p.length ∧ x = ((a : Int) + 1, (a : Int) + j + 1) ∧ iv p a j = true := by
  rw [ivL, mem_ivK]
  constructor
  · rintro ⟨a, j, h1, h2⟩; exact ⟨a, j, h2⟩
  · rintro ⟨a, j, h2⟩; exact ⟨a, j, by omega, h2⟩
theorem rowI_le (p : List Int) (a k : Nat) : (rowI p a k).length ≤ k := by
  induction k with
  | zero => simp [rowI]
  | succ k ih =>
    rw [rowI, List.length_append]
    split <;> simp <;> omega
theorem ivK_le (p : List Int) (m : Nat) : (ivK p m).length ≤ m * p.length := by
  induction m with
  | zero => simp [ivK]
  | succ m ih =>
    rw [ivK, List.length_append, Nat.add_mul]
    have := rowI_le p m (p.length - m)
    omega
theorem ivL_le {p : List Int} (h : isP p = true) : (ivL p).length ≤ 64 := by
  have h1 := ivK_le p p.length
  have h8 := isP_le h
  have : p.length * p.length ≤ 8 * 8 := Nat.mul_le_mul h8 h8
  unfold ivL; omega
/-- What impl.IsInterval asks, what spec.IsInterval asks. -/
def isIv (p : List Int) (f t : Int) : Bool := isP p && decide (1 ≤ f ∧ f ≤ t ∧ t ≤ (p.length : Int)) && iv p (f - 1).toNat (t - f).toNat
theorem isIv_mem {p : List Int} (f t : Int) : isIv p f t = (isP p && decide ((f, t) ∈ ivL p)) := by
  cases hp : isP p with
  | false => simp [isIv, hp]
  | true =>
    rw [Bool.eq_iff_iff]
    simp only [isIv, hp, Bool.true_and, Bool.and_eq_true, decide_eq_true_eq, mem_ivL]
    constructor
    · rintro ⟨⟨h1, h2, h3⟩, h4⟩
      refine ⟨(f - 1).toNat, (t - f).toNat, by omega, ?_, h4⟩
      rw [Prod.mk.injEq]; omega
    · rintro ⟨a, j, h1, h2, h3⟩
      rw [Prod.mk.injEq] at h2
      obtain ⟨rfl, rfl⟩ := h2
      refine ⟨by omega, ?_⟩
      rwa [show ((a : Int) + 1 - 1).toNat = a by omega, show ((a : Int) + j + 1 - (a + 1)).toNat = j by omega]

/-- The intervals that IntervalsOf lists. -/
def rowS (p : List Int) (a : Nat) : Nat → List (List Int)
  | 0 => []
  | k + 1 => rowS p a k ++ (if (1 ≤ k ∧ k + 1 < p.length) ∧ iv p a k = true then [[(a : Int) + 1, (a : Int) + k + 1]] else [])
def ivSK (p : List Int) : Nat → List (List Int)
  | 0 => []
  | a + 1 => ivSK p a ++ rowS p a (p.length - a)
def ivsR (p : List Int) : List (List Int) := if isP p then ivSK p p.length else []
theorem ivsR_yes {p : List Int} (h : isP p = true) : ivsR p = ivSK p p.length := by unfold ivsR; rw [if_pos h]
theorem ivsR_no {p : List Int} (h : isP p = false) : ivsR p = [] := by unfold ivsR; rw [if_neg (by simp [h])]
theorem rowS_yes {p : List Int} {a k : Nat} (h1 : 1 ≤ k ∧ k + 1 < p.length) (h : iv p a k = true) : rowS p a (k + 1) = rowS p a k ++ [[(a : Int) + 1, (a : Int) + k + 1]] := by rw [rowS, if_pos ⟨h1, h⟩]
theorem rowS_no1 {p : List Int} {a k : Nat} (h : ¬ (1 ≤ k ∧ k + 1 < p.length)) : rowS p a (k + 1) = rowS p a k := by rw [rowS, if_neg (fun e => h e.1), List.append_nil]
theorem rowS_no {p : List Int} {a k : Nat} (h : iv p a k = false) : rowS p a (k + 1) = rowS p a k := by rw [rowS, if_neg (fun e => by rw [h] at e; exact absurd e.2 (by simp)), List.append_nil]
/-- Those of more than one place and not of all places. -/
def inner (n : Int) (x : Int × Int) : Bool := decide (x.1 < x.2) && !decide (x = ((1 : Int), n))
def two (x : Int × Int) : List Int := [x.1, x.2]
def pick (n : Int) (l : List (Int × Int)) : List (List Int) := (l.filter (inner n)).map two
theorem pick_append (n : Int) (l m : List (Int × Int)) : pick n (l ++ m) = pick n l ++ pick n m := by simp [pick]
theorem pick_yes {n : Int} {l : List (Int × Int)} {x : Int × Int} (h : inner n x = true) : pick n (l ++ [x]) = pick n l ++ [two x] := by simp [pick, h]
theorem pick_no {n : Int} {l : List (Int × Int)} {x : Int × Int} (h : inner n x = false) : pick n (l ++ [x]) = pick n l := by simp [pick, h]
theorem inner_at {p : List Int} {a k : Nat} (hk : a + k < p.length) : inner p.length ((a : Int) + 1, (a : Int) + k + 1) = decide (1 ≤ k ∧ k + 1 < p.length) := by
  rw [Bool.eq_iff_iff]
  simp only [inner, Bool.and_eq_true, Bool.not_eq_true', decide_eq_true_eq, decide_eq_false_iff_not, Prod.mk.injEq]
  omega
theorem pick_row {p : List Int} {a k : Nat} (hk : a + k ≤ p.length) : pick p.length (rowI p a k) = rowS p a k := by
  induction k with
  | zero => rfl
  | succ k ih =>
    cases hv : iv p a k with
    | false => rw [rowI_no hv, rowS_no hv, ih (by omega)]
    | true =>
      have hi := inner_at (p := p) (a := a) (k := k) (by omega)
      by_cases hc : 1 ≤ k ∧ k + 1 < p.length
      · rw [rowI_yes hv, rowS_yes hc hv, pick_yes (by rw [hi]; simp [hc]), ih (by omega)]; rfl
      · rw [rowI_yes hv, rowS_no1 hc, pick_no (by rw [hi]; simp; omega), ih (by omega)]
theorem pick_K {p : List Int} {m : Nat} (hm : m ≤ p.length) : pick p.length (ivK p m) = ivSK p m := by
  induction m with
  | zero => rfl
  | succ m ih => rw [ivK, ivSK, pick_append, ih (by omega), pick_row (by omega)]
theorem pick_all (p : List Int) : pick p.length (ivL p) = ivSK p p.length := pick_K (Nat.le_refl _)
theorem pick_le (n : Int) (l : List (Int × Int)) : (pick n l).length ≤ l.length := by
  unfold pick
  rw [List.length_map]
  exact List.length_filter_le _ _
theorem tot_two (l : List (Int × Int)) : tot (l.map two) = 2 * l.length := by
  induction l with
  | nil => rfl
  | cons x l ih =>
    have e : tot ((x :: l).map two) = 2 + tot (l.map two) := by simp [tot, two]
    rw [e, ih, List.length_cons]; omega
theorem ivsR_small (p : List Int) : (ivsR p).length ≤ 64 ∧ tot (ivsR p) ≤ 128 := by
  cases h : isP p with
  | false => rw [ivsR_no h]; simp [tot]
  | true =>
    rw [ivsR_yes h, ← pick_all]
    have h1 := pick_le p.length (ivL p)
    have h2 := ivL_le h
    refine ⟨by omega, ?_⟩
    have h3 : (pick p.length (ivL p)).length = ((ivL p).filter (inner p.length)).length := by simp [pick]
    unfold pick
    rw [tot_two]
    omega
theorem mem_ivsR {p : List Int} {z : List Int} (h : z ∈ ivsR p) : isP p = true ∧ ∃ f t : Int, z = [f, t] ∧ isIv p f t = true ∧ 1 ≤ f ∧ f ≤ 8 ∧ 1 ≤ t ∧ t ≤ 8 := by
  cases hp : isP p with
  | false => rw [ivsR_no hp] at h; cases h
  | true =>
    rw [ivsR_yes hp, ← pick_all] at h
    obtain ⟨x, hx, rfl⟩ := List.mem_map.1 h
    have hm := (List.mem_filter.1 hx).1
    refine ⟨rfl, x.1, x.2, rfl, ?_, ?_⟩
    · rw [isIv_mem, hp]; simpa using hm
    · obtain ⟨a, j, h1, rfl, _⟩ := mem_ivL.1 hm
      have := isP_le hp
      simp only
      omega

/-- How many there are. -/
theorem count_row {p : List Int} (h : isP p = true) {a k : Nat} (hk : a + k ≤ p.length) : (rowI p a k).length = (rowS p a k).length + (if 1 ≤ k then 1 else 0) + (if a = 0 ∧ k = p.length ∧ 2 ≤ k then 1 else 0) := by
  induction k with
  | zero => simp [rowI, rowS]
  | succ k ih =>
    have h1 := ih (by omega)
    rw [if_neg (show ¬ (a = 0 ∧ k = p.length ∧ 2 ≤ k) by omega)] at h1
    by_cases h0 : k = 0
    · subst h0
      rw [rowI_yes (iv_one h (by omega)), rowS_no1 (by omega), List.length_append, h1]
      simp
    · rw [if_pos (show 1 ≤ k by omega)] at h1
      rw [if_pos (show 1 ≤ k + 1 by omega)]
      by_cases hw : k + 1 = p.length
      · have hv := iv_whole h (by omega)
        rw [← hw, Nat.add_sub_cancel] at hv
        have ha : a = 0 := by omega
        subst ha
        rw [rowI_yes hv, rowS_no1 (by omega), List.length_append, h1, if_pos (by omega)]
        rfl
      · rw [if_neg (show ¬ (a = 0 ∧ k + 1 = p.length ∧ 2 ≤ k + 1) by omega)]
        cases hv : iv p a k with
        | true => rw [rowI_yes hv, rowS_yes (by omega) hv, List.length_append, List.length_append, h1]; simp
        | false => rw [rowI_no hv, rowS_no hv, h1]
theorem count_K {p : List Int} (h : isP p = true) {m : Nat} (hm : m ≤ p.length) : (ivK p m).length = (ivSK p m).length + m + (if 1 ≤ m ∧ 2 ≤ p.length then 1 else 0) := by
  induction m with
  | zero => simp [ivK, ivSK]
  | succ m ih =>
    have h1 := ih (by omega)
    have h2 := count_row h (a := m) (k := p.length - m) (by omega)
    rw [if_pos (show 1 ≤ p.length - m by omega)] at h2
    rw [ivK, ivSK, List.length_append, List.length_append, h1, h2]
    by_cases h0 : m = 0
    · subst h0
      rw [if_neg (show ¬ (1 ≤ 0 ∧ 2 ≤ p.length) by omega)]
      by_cases h2 : 2 ≤ p.length
      · rw [if_pos (show _ ∧ _ ∧ _ by omega), if_pos (show _ ∧ _ by omega)]; omega
      · rw [if_neg (show ¬ (_ ∧ _ ∧ _) by omega), if_neg (show ¬ (_ ∧ _) by omega)]; omega
    · rw [if_neg (show ¬ (m = 0 ∧ p.length - m = p.length ∧ 2 ≤ p.length - m) by omega)]
      by_cases h2 : 2 ≤ p.length
      · rw [if_pos (show 1 ≤ m ∧ 2 ≤ p.length by omega), if_pos (show 1 ≤ m + 1 ∧ 2 ≤ p.length by omega)]; omega
      · rw [if_neg (show ¬ (1 ≤ m ∧ 2 ≤ p.length) by omega), if_neg (show ¬ (1 ≤ m + 1 ∧ 2 ≤ p.length) by omega)]; omega
def cntR (p : List Int) : Int := if isP p then ((ivL p).length : Int) else -1
theorem cntR_yes {p : List Int} (h : isP p = true) : cntR p = ((ivL p).length : Int) := by unfold cntR; rw [if_pos h]
theorem cntR_no {p : List Int} (h : isP p = false) : cntR p = -1 := by unfold cntR; rw [if_neg (by simp [h])]
theorem cntR_sum {p : List Int} (h : isP p = true) : cntR p = ((ivsR p).length : Int) + (p.length : Int) + (if 1 < p.length then 1 else 0) := by
  rw [cntR_yes h, ivsR_yes h, ivL, count_K h (Nat.le_refl _)]
  by_cases h2 : 2 ≤ p.length
  · rw [if_pos (show 1 ≤ p.length ∧ 2 ≤ p.length by omega), if_pos (show 1 < p.length by omega)]; omega
  · rw [if_neg (show ¬ (1 ≤ p.length ∧ 2 ≤ p.length) by omega), if_neg (show ¬ 1 < p.length by omega)]; omega
theorem isIv_no0 {p : List Int} {f t : Int} (h : isP p = false) : isIv p f t = false := by simp [isIv, h]
theorem isIv_no {p : List Int} {f t : Int} (h : ¬ (1 ≤ f ∧ f ≤ t ∧ t ≤ (p.length : Int))) : isIv p f t = false := by
  unfold isIv
  rw [show decide (1 ≤ f ∧ f ≤ t ∧ t ≤ (p.length : Int)) = false from decide_eq_false h]; simp
theorem isIv_at {p : List Int} {a k : Nat} (hp : isP p = true) (h : a + k < p.length) : isIv p ((a : Int) + 1) ((a : Int) + 1 + k) = iv p a k := by
  unfold isIv
  rw [hp, show decide (1 ≤ (a : Int) + 1 ∧ (a : Int) + 1 ≤ (a : Int) + 1 + k ∧ (a : Int) + 1 + k ≤ (p.length : Int)) = true from decide_eq_true (by omega), show ((a : Int) + 1 - 1).toNat = a by omega, show ((a : Int) + 1 + k - (a + 1)).toNat = k by omega]
  simp
def simpleP (p : List Int) : Bool := isP p && decide (0 < p.length) && decide ((ivsR p).length = 0)
end Go.Proofs.YtplchjeamooliaaGreatDoor


/-
  PLAIN: lists that stand alike; occurrences of a permutation in a permutation. Nothing here speaks of the program.
-/

namespace Go.Proofs.YtplchjeamooliaaGreatDoor
set_option maxRecDepth 100000

theorem at0_zero (a : Int) (l : List Int) : at0 (a :: l) 0 = a := rfl
theorem at0_succ (a : Int) (l : List Int) (i : Nat) : at0 (a :: l) (i + 1) = at0 l i := rfl
theorem at0_mem {l : List Int} {i : Nat} (h : i < l.length) : at0 l i ∈ l := List.mem_of_getElem? (at0_some h)
theorem at0_app {a b : List Int} {i : Nat} (h : i < a.length) : at0 (a ++ b) i = at0 a i := at0_of (by rw [List.getElem?_append_left h]; exact at0_some h)
theorem at0_last (a : List Int) (x : Int) : at0 (a ++ [x]) a.length = x := at0_of (by simp)
theorem at0_take {l : List Int} {i k : Nat} (h : i < k) (hl : i < l.length) : at0 (l.take k) i = at0 l i := at0_of (by rw [List.getElem?_take, if_pos h]; exact at0_some hl)
theorem ext_at0 {a b : List Int} (hl : a.length = b.length) (h : ∀ i, i < a.length → at0 a i = at0 b i) : a = b := by
  refine List.ext_getElem? fun i => ?_
  by_cases hi : i < a.length
  · rw [at0_some hi, at0_some (by omega), h i hi]
  · rw [List.getElem?_eq_none (by omega), List.getElem?_eq_none (by omega)]

/-- Two lists stand alike: their numbers are in the same order. -/
def Alike (v u : List Int) : Prop := v.length = u.length ∧ ∀ i j, i < v.length → j < v.length → (at0 v i < at0 v j ↔ at0 u i < at0 u j)
theorem cnt_pt : ∀ {v u : List Int} {x y : Int}, v.length = u.length → (∀ i, i < v.length → (at0 v i < x ↔ at0 u i < y)) → cnt v x = cnt u y
  | [], [], _, _, _, _ => rfl
  | [], _ :: _, _, _, h, _ => by simp at h
  | _ :: _, [], _, _, h, _ => by simp at h
  | a :: v, b :: u, x, y, h, hp => by
    have h0 := hp 0 (by simp)
    rw [at0_zero, at0_zero] at h0
    have ih := cnt_pt (v := v) (u := u) (x := x) (y := y) (by simpa using h) fun i hi => by
      have := hp (i + 1) (by simp; omega)
      rwa [at0_succ, at0_succ] at this
    rw [cnt_cons, cnt_cons, ih]
    by_cases hx : a < x
    · rw [if_pos hx, if_pos (h0.1 hx)]
    · rw [if_neg hx, if_neg (fun h => hx (h0.2 h))]
theorem patL_at0 {l : List Int} {i : Nat} (h : i < l.length) : at0 (patL l) i = 1 + (cnt l (at0 l i) : Int) := at0_of (patL_at (at0_some h))
theorem patL_alike {v u : List Int} (h : Alike v u) : patL v = patL u := by
  refine ext_at0 (by rw [patL_length, patL_length]; exact h.1) fun i hi => ?_
  rw [patL_length] at hi
  have hl := h.1
  rw [patL_at0 hi, patL_at0 (by omega), cnt_pt hl fun j hj => h.2 j i hj hi]
theorem cnt_iff {l : List Int} {a b : Int} (ha : a ∈ l) : a < b ↔ cnt l a < cnt l b := by
  constructor
  · intro h; have := cnt_lt ha h; omega
  · intro h
    by_cases hb : b ≤ a
    · have := cnt_mono l hb; omega
    · omega
theorem alike_patL {v u : List Int} (h : patL v = patL u) : Alike v u := by
  have hl : v.length = u.length := by have := congrArg List.length h; rwa [patL_length, patL_length] at this
  refine ⟨hl, fun i j hi hj => ?_⟩
  have e : ∀ k, k < v.length → cnt v (at0 v k) = cnt u (at0 u k) := fun k hk => by
    have h1 : at0 (patL v) k = at0 (patL u) k := by rw [h]
    rw [patL_at0 hk, patL_at0 (by omega)] at h1
    omega
  rw [cnt_iff (at0_mem hi), cnt_iff (l := u) (at0_mem (by omega)), e i hi, e j hj]
theorem patL_self {p : List Int} (h : isP p = true) : patL p = p := by
  refine ext_at0 (patL_length p) fun i hi => ?_
  rw [patL_length] at hi
  rw [patL_at0 hi, cnt_isP h (at0_mem hi)]
  omega
theorem Alike.symm {v u : List Int} (h : Alike v u) : Alike u v := ⟨h.1.symm, fun i j hi hj => (h.2 i j (by rw [h.1]; exact hi) (by rw [h.1]; exact hj)).symm⟩
theorem Alike.trans {a b c : List Int} (h : Alike a b) (k : Alike b c) : Alike a c := ⟨h.1.trans k.1, fun i j hi hj => (h.2 i j hi hj).trans (k.2 i j (by rw [← h.1]; exact hi) (by rw [← h.1]; exact hj))⟩
theorem alike_pat (v : List Int) : Alike (patL v) v := ⟨patL_length v, fun i j hi hj => by
  rw [patL_length] at hi hj
  rw [patL_at0 hi, patL_at0 hj, cnt_iff (at0_mem hi)]
  omega⟩
theorem pat_eq_iff {v q : List Int} (hq : isP q = true) : patL v = q ↔ Alike v q := by
  constructor
  · intro h; exact alike_patL (by rw [h, patL_self hq])
  · intro h; rw [patL_alike h, patL_self hq]
theorem isP_ne {p : List Int} (h : isP p = true) {i j : Nat} (hi : i < p.length) (hj : j < p.length) (hne : i ≠ j) : at0 p i ≠ at0 p j := fun e => hne (isP_same h (at0_some hi) (by rw [e]; exact at0_some hj))

/-! occurrences -/
/-- The numbers at places. -/
def nums (p pl : List Int) : List Int := pl.map fun x => at0 p (x.toNat - 1)
theorem nums_length (p pl : List Int) : (nums p pl).length = pl.length := by simp [nums]
theorem nums_at0 {p pl : List Int} {i : Nat} (h : i < pl.length) : at0 (nums p pl) i = at0 p ((at0 pl i).toNat - 1) := at0_of (by unfold nums; rw [List.getElem?_map, at0_some h]; rfl)
theorem nums_snoc (p pl : List Int) (x : Int) : nums p (pl ++ [x]) = nums p pl ++ [at0 p (x.toNat - 1)] := by simp [nums]
theorem nums_take (p pl : List Int) (k : Nat) : nums p (pl.take k) = (nums p pl).take k := by simp [nums, List.map_take]
def PlOK (n : Nat) (pl : List Int) : Prop := (∀ x ∈ pl, 1 ≤ x ∧ x ≤ (n : Int)) ∧ pl.Pairwise (· < ·)
instance (n : Nat) (pl : List Int) : Decidable (PlOK n pl) := inferInstanceAs (Decidable (_ ∧ _))
theorem PlOK.nil (n : Nat) : PlOK n [] := ⟨fun x hx => by simp at hx, List.Pairwise.nil⟩
theorem PlOK.take {n : Nat} {pl : List Int} (h : PlOK n pl) (k : Nat) : PlOK n (pl.take k) := ⟨fun x hx => h.1 x (List.mem_of_mem_take hx), h.2.sublist (List.take_sublist _ _)⟩
theorem PlOK.mono {n : Nat} {pl : List Int} (h : PlOK n pl) {i j : Nat} (hij : i < j) (hj : j < pl.length) : at0 pl i < at0 pl j := by
  have := List.pairwise_iff_getElem.1 h.2 i j (by omega) hj hij
  rw [at0_of (List.getElem?_eq_getElem (show i < pl.length by omega)), at0_of (List.getElem?_eq_getElem hj)]
  exact this
theorem PlOK.rng {n : Nat} {pl : List Int} (h : PlOK n pl) {i : Nat} (hi : i < pl.length) : 1 ≤ at0 pl i ∧ at0 pl i ≤ (n : Int) := h.1 _ (at0_mem hi)
theorem nums_ne {p pl : List Int} (hp : isP p = true) (h : PlOK p.length pl) {i j : Nat} (hi : i < pl.length) (hj : j < pl.length) (hne : i ≠ j) : at0 (nums p pl) i ≠ at0 (nums p pl) j := by
  have r1 := h.rng hi
  have r2 := h.rng hj
  have hm : at0 pl i ≠ at0 pl j := by
    rcases Nat.lt_or_ge i j with h1 | h1
    · have := h.mono h1 hj; omega
    · have := h.mono (show j < i by omega) hi; omega
  rw [nums_at0 hi, nums_at0 hj]
  exact isP_ne hp (by omega) (by omega) (by omega)
/-- The last one of some places agrees with a pattern. -/
def fitL (p q pl : List Int) : Bool := (List.range (pl.length - 1)).all fun k => decide (at0 q k < at0 q (pl.length - 1)) == decide (at0 (nums p pl) k < at0 (nums p pl) (pl.length - 1))
theorem fitL_iff {p q pl : List Int} : fitL p q pl = true ↔ ∀ k, k < pl.length - 1 → (at0 q k < at0 q (pl.length - 1) ↔ at0 (nums p pl) k < at0 (nums p pl) (pl.length - 1)) := by
  unfold fitL
  rw [List.all_eq_true]
  simp only [List.mem_range, beq_iff_eq, decide_eq_decide]
theorem fitL_yes {p q pl : List Int} (h : ∀ k, k < pl.length - 1 → decide (at0 q k < at0 q (pl.length - 1)) = decide (at0 (nums p pl) k < at0 (nums p pl) (pl.length - 1))) : fitL p q pl = true := by
  rw [fitL_iff]
  intro k hk
  exact decide_eq_decide.1 (h k hk)
theorem fitL_no {p q pl : List Int} {k : Nat} (hk : k < pl.length - 1) (h : decide (at0 q k < at0 q (pl.length - 1)) ≠ decide (at0 (nums p pl) k < at0 (nums p pl) (pl.length - 1))) : fitL p q pl = false := by
  cases hf : fitL p q pl with
  | false => rfl
  | true => exact absurd (decide_eq_decide.2 (fitL_iff.1 hf k hk)) h
theorem fits_alike {p q pl : List Int} (hp : isP p = true) (hq : isP q = true) (hl : pl.length = q.length) (h : PlOK p.length pl) : (∀ k, k < pl.length → fitL p q (pl.take (k + 1)) = true) ↔ Alike (nums p pl) q := by
  have hlt : ∀ k, k < pl.length → (pl.take (k + 1)).length = k + 1 := fun k hk => by rw [List.length_take]; omega
  have key : ∀ k, k < pl.length → (fitL p q (pl.take (k + 1)) = true ↔ ∀ i, i < k → (at0 q i < at0 q k ↔ at0 (nums p pl) i < at0 (nums p pl) k)) := fun k hk => by
    rw [fitL_iff, hlt k hk, Nat.add_sub_cancel, nums_take]
    have hpl := nums_length p pl
    constructor
    · intro h i hi
      have := h i hi
      rwa [at0_take (by omega) (by omega), at0_take (by omega) (by omega)] at this
    · intro h i hi
      rw [at0_take (by omega) (by omega), at0_take (by omega) (by omega)]
      exact h i hi
  constructor
  · intro hf
    refine ⟨by rw [nums_length]; exact hl, fun i j hi hj => ?_⟩
    rw [nums_length] at hi hj
    rcases Nat.lt_trichotomy i j with h1 | h1 | h1
    · exact ((key j hj).1 (hf j hj) i h1).symm
    · subst h1; exact ⟨fun h => by omega, fun h => by omega⟩
    · have h2 := (key i hi).1 (hf i hi) j h1
      have n1 := nums_ne hp h hi hj (by omega)
      have n2 := isP_ne hq (i := i) (j := j) (by omega) (by omega) (by omega)
      constructor
      · intro h3; by_cases h4 : at0 q j < at0 q i
        · have := h2.1 h4; omega
        · omega
      · intro h3; by_cases h4 : at0 (nums p pl) j < at0 (nums p pl) i
        · have := h2.2 h4; omega
        · omega
  · intro ha k hk
    rw [key k hk]
    intro i hi
    exact (ha.2 i k (by rw [nums_length]; omega) (by rw [nums_length]; omega)).symm

/-- The last place, or none. -/
def lastP (head : List Int) : Nat := (head.getLast?.getD 0).toNat
theorem lastP_nil : lastP [] = 0 := rfl
theorem lastP_snoc (head : List Int) (x : Int) : lastP (head ++ [x]) = x.toNat := by simp [lastP]
theorem lastP_at {head : List Int} (h : 0 < head.length) : lastP head = (at0 head (head.length - 1)).toNat := by
  unfold lastP
  rw [List.getLast?_eq_getElem?, at0_some (by omega)]; rfl
theorem lastP_le {n : Nat} {head : List Int} (h : PlOK n head) : lastP head ≤ n := by
  cases head with
  | nil => rw [lastP_nil]; omega
  | cons a l =>
    rw [lastP_at (by simp)]
    have := h.rng (i := (a :: l).length - 1) (by simp)
    omega
theorem PlOK.snoc {n : Nat} {head : List Int} {x : Int} : PlOK n (head ++ [x]) ↔ PlOK n head ∧ (lastP head : Int) < x ∧ x ≤ (n : Int) := by
  unfold PlOK
  rw [List.pairwise_append]
  constructor
  · rintro ⟨h1, h2, _, h3⟩
    refine ⟨⟨fun y hy => h1 y (by simp [hy]), h2⟩, ?_, (h1 x (by simp)).2⟩
    by_cases h0 : 0 < head.length
    · have h4 := h3 (at0 head (head.length - 1)) (at0_mem (by omega)) x (by simp)
      have h5 := h1 x (by simp)
      rw [lastP_at h0]; omega
    · have : head = [] := List.eq_nil_of_length_eq_zero (by omega)
      subst this
      have h5 := h1 x (by simp)
      rw [lastP_nil]; omega
  · rintro ⟨h1, h2, h3⟩
    refine ⟨fun y hy => ?_, h1.2, by simp, fun a ha b hb => ?_⟩
    · rcases List.mem_append.1 hy with h | h
      · exact h1.1 y h
      · simp at h; subst h; omega
    · simp at hb; subst hb
      have hr := h1.1 a ha
      obtain ⟨i, hi, rfl⟩ := List.getElem_of_mem ha
      have h0 : 0 < head.length := by omega
      have e : at0 head i = head[i] := at0_of (List.getElem?_eq_getElem hi)
      have : at0 head i ≤ at0 head (head.length - 1) := by
        by_cases hh : i = head.length - 1
        · rw [← hh]; exact Int.le_refl _
        · have := PlOK.mono (n := n) h1 (i := i) (j := head.length - 1) (by omega) (by omega); omega
      rw [lastP_at h0] at h2
      have hr2 := PlOK.rng (n := n) h1 (i := head.length - 1) (by omega)
      omega

/-- The occurrences that begin with head and have m places more. -/
def extL (p q : List Int) : Nat → List Int → List (List Int)
  | 0, head => [head]
  | m + 1, head => (List.range (p.length - lastP head)).flatMap fun i => if fitL p q (head ++ [((lastP head + i + 1 : Nat) : Int)]) then extL p q m (head ++ [((lastP head + i + 1 : Nat) : Int)]) else []
/-- .. of the first j of the next places. -/
def extK (p q : List Int) (m : Nat) (head : List Int) (j : Nat) : List (List Int) := (List.range j).flatMap fun i => if fitL p q (head ++ [((lastP head + i + 1 : Nat) : Int)]) then extL p q m (head ++ [((lastP head + i + 1 : Nat) : Int)]) else []
theorem extK_all (p q : List Int) (m : Nat) (head : List Int) : extK p q m head (p.length - lastP head) = extL p q (m + 1) head := rfl
theorem extK_zero (p q : List Int) (m : Nat) (head : List Int) : extK p q m head 0 = [] := rfl
theorem extK_yes {p q : List Int} {m : Nat} {head : List Int} {j : Nat} (h : fitL p q (head ++ [((lastP head + j + 1 : Nat) : Int)]) = true) : extK p q m head (j + 1) = extK p q m head j ++ extL p q m (head ++ [((lastP head + j + 1 : Nat) : Int)]) := by
  unfold extK
  rw [List.range_succ, List.flatMap_append, List.flatMap_cons, List.flatMap_nil, List.append_nil, if_pos h]
theorem extK_no {p q : List Int} {m : Nat} {head : List Int} {j : Nat} (h : fitL p q (head ++ [((lastP head + j + 1 : Nat) : Int)]) = false) : extK p q m head (j + 1) = extK p q m head j := by
  unfold extK
  rw [List.range_succ, List.flatMap_append, List.flatMap_cons, List.flatMap_nil, List.append_nil, if_neg (by rw [h]; exact Bool.false_ne_true), List.append_nil]
theorem mem_extL {p q : List Int} : ∀ (m : Nat) (head pl : List Int), PlOK p.length head → (pl ∈ extL p q m head ↔ ∃ tl, pl = head ++ tl ∧ tl.length = m ∧ PlOK p.length pl ∧ ∀ k, head.length ≤ k → k < pl.length → fitL p q (pl.take (k + 1)) = true)
  | 0, head, pl, h => by
    rw [extL, List.mem_singleton]
    constructor
    · rintro rfl
      exact ⟨[], by simp, rfl, h, fun k h1 h2 => by omega⟩
    · rintro ⟨tl, rfl, h1, _⟩
      rw [List.eq_nil_of_length_eq_zero h1, List.append_nil]
  | m + 1, head, pl, h => by
    have hle := lastP_le h
    rw [extL, List.mem_flatMap]
    constructor
    · rintro ⟨i, hi, hm⟩
      rw [List.mem_range] at hi
      by_cases hf : fitL p q (head ++ [((lastP head + i + 1 : Nat) : Int)]) = true
      · rw [if_pos hf] at hm
        have hh : PlOK p.length (head ++ [((lastP head + i + 1 : Nat) : Int)]) := PlOK.snoc.2 ⟨h, by omega, by omega⟩
        obtain ⟨tl, rfl, h1, h2, h3⟩ := (mem_extL m _ pl hh).1 hm
        refine ⟨((lastP head + i + 1 : Nat) : Int) :: tl, by rw [List.append_assoc]; rfl, by simp [h1], h2, fun k hk1 hk2 => ?_⟩
        by_cases hk : k = head.length
        · subst hk
          rw [List.take_append_of_le_length (by simp), List.take_of_length_le (by simp)]
          exact hf
        · exact h3 k (by simp; omega) hk2
      · rw [if_neg hf] at hm; cases hm
    · rintro ⟨tl, rfl, h1, h2, h3⟩
      match tl, h1 with
      | x :: tl, h1 =>
        have hx : PlOK p.length (head ++ [x]) := by
          have := h2.take (head.length + 1)
          rwa [show head ++ x :: tl = head ++ [x] ++ tl by simp, List.take_append_of_le_length (by simp), List.take_of_length_le (by simp)] at this
        obtain ⟨_, hx1, hx2⟩ := PlOK.snoc.1 hx
        have hxe : ((lastP head + (x.toNat - lastP head - 1) + 1 : Nat) : Int) = x := by omega
        refine ⟨x.toNat - lastP head - 1, List.mem_range.2 (by omega), ?_⟩
        rw [hxe]
        have hf := h3 head.length (Nat.le_refl _) (by simp)
        rw [show head ++ x :: tl = head ++ [x] ++ tl by simp, List.take_append_of_le_length (by simp), List.take_of_length_le (by simp)] at hf
        rw [if_pos hf, mem_extL m _ _ hx]
        exact ⟨tl, by simp, by simpa using h1, h2, fun k hk1 hk2 => h3 k (by simp at hk1; omega) hk2⟩
theorem extL_len {p q : List Int} : ∀ (m : Nat) (head pl : List Int), pl ∈ extL p q m head → pl.length = head.length + m
  | 0, head, pl, h => by rw [extL, List.mem_singleton] at h; subst h; rfl
  | m + 1, head, pl, h => by
    rw [extL, List.mem_flatMap] at h
    obtain ⟨i, _, h⟩ := h
    by_cases hf : fitL p q (head ++ [((lastP head + i + 1 : Nat) : Int)]) = true
    · rw [if_pos hf] at h
      have := extL_len m _ pl h
      simp at this; omega
    · rw [if_neg hf] at h; cases h
theorem extL_pre {p q : List Int} : ∀ (m : Nat) (head pl : List Int), pl ∈ extL p q m head → ∃ tl, pl = head ++ tl
  | 0, head, pl, h => by rw [extL, List.mem_singleton] at h; subst h; exact ⟨[], by simp⟩
  | m + 1, head, pl, h => by
    rw [extL, List.mem_flatMap] at h
    obtain ⟨i, _, h⟩ := h
    by_cases hf : fitL p q (head ++ [((lastP head + i + 1 : Nat) : Int)]) = true
    · rw [if_pos hf] at h
      obtain ⟨tl, rfl⟩ := extL_pre m _ pl h
      exact ⟨_ :: tl, by simp; rfl⟩
    · rw [if_neg hf] at h; cases h
theorem lexL_app (h : List Int) (a b : List Int) : lexL (h ++ a) (h ++ b) = lexL a b := by
  induction h with
  | nil => rfl
  | cons x h ih => rw [List.cons_append, List.cons_append, lexL, if_pos rfl, ih]
theorem extL_asc {p q : List Int} : ∀ (m : Nat) (head : List Int), Asc (extL p q m head)
  | 0, head => by rw [extL]; exact List.pairwise_singleton _ _
  | m + 1, head => by
    rw [extL]
    unfold Asc
    rw [List.pairwise_flatMap]
    constructor
    · intro i _
      split
      · exact extL_asc m _
      · exact List.Pairwise.nil
    · refine List.Pairwise.imp ?_ List.pairwise_lt_range
      intro i j hij x hx y hy
      split at hx
      · split at hy
        · have l1 := extL_len m _ x hx
          have l2 := extL_len m _ y hy
          obtain ⟨t, rfl⟩ := extL_pre m _ x hx
          obtain ⟨s, rfl⟩ := extL_pre m _ y hy
          simp only [List.length_append, List.length_singleton] at l1 l2
          rw [befL_eq (by simp; omega), List.append_assoc, List.append_assoc, lexL_app, List.singleton_append, List.singleton_append, lexL, if_neg (by omega)]
          simp; omega
        · cases hy
      · cases hx
/-- The occurrences of q in p. -/
def occR (p q : List Int) : List (List Int) := if isP p && isP q then extL p q q.length [] else []
theorem occR_yes {p q : List Int} (hp : isP p = true) (hq : isP q = true) : occR p q = extL p q q.length [] := by unfold occR; rw [if_pos (by simp [hp, hq])]
theorem occR_no {p q : List Int} (h : isP p = false ∨ isP q = false) : occR p q = [] := by
  unfold occR
  rw [if_neg (by rcases h with h | h <;> simp [h])]
def isOcc (p q pl : List Int) : Bool := isP p && (isP q && (decide (pl.length = q.length) && (decide (PlOK p.length pl) && decide (patL (nums p pl) = q))))
theorem isOcc_iff {p q pl : List Int} : isOcc p q pl = true ↔ isP p = true ∧ isP q = true ∧ pl.length = q.length ∧ PlOK p.length pl ∧ patL (nums p pl) = q := by
  unfold isOcc
  simp only [Bool.and_eq_true, decide_eq_true_eq]
theorem mem_occ {p q pl : List Int} : pl ∈ occR p q ↔ isOcc p q pl = true := by
  rw [isOcc_iff]
  cases hp : isP p with
  | false => rw [occR_no (.inl hp)]; simp
  | true =>
    cases hq : isP q with
    | false => rw [occR_no (.inr hq)]; simp
    | true =>
      rw [occR_yes hp hq, mem_extL q.length [] pl (PlOK.nil _)]
      constructor
      · rintro ⟨tl, rfl, h1, h2, h3⟩
        exact ⟨rfl, rfl, h1, h2, (pat_eq_iff hq).2 ((fits_alike hp hq h1 h2).1 fun k hk => h3 k (Nat.zero_le _) hk)⟩
      · rintro ⟨_, _, h1, h2, h3⟩
        exact ⟨pl, by simp, h1, h2, fun k _ hk => (fits_alike hp hq h1 h2).2 ((pat_eq_iff hq).1 h3) k hk⟩
theorem occ_asc (p q : List Int) : Asc (occR p q) := by
  unfold occR
  split
  · exact extL_asc _ _
  · exact List.Pairwise.nil
end Go.Proofs.YtplchjeamooliaaGreatDoor


/-
  PLAIN: classes by their bases. Nothing here speaks of the program.
-/

namespace Go.Proofs.YtplchjeamooliaaGreatDoor
set_option maxRecDepth 100000

/-- q occurs in p (both permutations). -/
def hasO (p q : List Int) : Bool := decide (0 < (extL p q q.length []).length)
/-- None of the list occurs in p. -/
def avo (list : List (List Int)) (p : List Int) : Bool := list.all fun q => !hasO p q
theorem avo_yes {list : List (List Int)} {p : List Int} : avo list p = true ↔ ∀ q ∈ list, hasO p q = false := by unfold avo; simp
theorem avo_no {list : List (List Int)} {p q : List Int} (hq : q ∈ list) (h : hasO p q = true) : avo list p = false := by
  cases h1 : avo list p with
  | false => rfl
  | true => rw [avo_yes.1 h1 q hq] at h; cases h
theorem avo_nil (p : List Int) : avo [] p = true := rfl
theorem avo_step {list : List (List Int)} {p q : List Int} {k : Nat} (h : list[k]? = some q) (hq : hasO p q = false) (hk : avo (list.take k) p = true) : avo (list.take (k + 1)) p = true := by
  rw [List.take_add_one, h]
  exact avo_yes.2 fun x hx => by
    rcases List.mem_append.1 hx with hx | hx
    · exact avo_yes.1 hk x hx
    · simp at hx; subst hx; exact hq
/-- What IsBasis asks of its k-th list. -/
def basAt (L : List (List Int)) (k : Nat) : Bool := isP (L.getD k []) && decide ((L.getD k []).length ≠ 0) && (decide (k = 0) || befL (L.getD (k - 1) []) (L.getD k [])) && avo (L.take k) (L.getD k [])
def basis (L : List (List Int)) : Bool := (List.range L.length).all (basAt L) && decide (L.length ≤ 8)
def BasTo (L : List (List Int)) (k : Nat) : Prop := ∀ i, i < k → basAt L i = true
theorem BasTo.zero (L : List (List Int)) : BasTo L 0 := fun i hi => absurd hi (by omega)
theorem BasTo.step {L : List (List Int)} {k : Nat} (h : BasTo L k) (hk : basAt L k = true) : BasTo L (k + 1) := fun i hi => by
  by_cases h1 : i < k
  · exact h i h1
  · rw [show i = k by omega]; exact hk
theorem BasTo.end_ {L : List (List Int)} (h : BasTo L L.length) : basis L = decide (L.length ≤ 8) := by
  unfold basis
  rw [show (List.range L.length).all (basAt L) = true by rw [List.all_eq_true]; exact fun i hi => h i (List.mem_range.1 hi)]
  rfl
theorem basis_no {L : List (List Int)} {k : Nat} (hk : k < L.length) (h : basAt L k = false) : basis L = false := by
  unfold basis
  rw [show (List.range L.length).all (basAt L) = false by rw [List.all_eq_false]; exact ⟨k, List.mem_range.2 hk, by simp [h]⟩]
  rfl
theorem getD_row {L : List (List Int)} {k : Nat} {z : List Int} (h : L[k]? = some z) : L.getD k [] = z := by rw [List.getD_eq_getElem?_getD, h]; rfl
theorem basAt_at {L : List (List Int)} {k : Nat} {z : List Int} (h : L[k]? = some z) : basAt L k = (isP z && decide (z.length ≠ 0) && (decide (k = 0) || befL (L.getD (k - 1) []) z) && avo (L.take k) z) := by unfold basAt; rw [getD_row h]
theorem basAt_isP {L : List (List Int)} {k : Nat} {z : List Int} (h : L[k]? = some z) (hb : basAt L k = true) : isP z = true ∧ z.length ≠ 0 := by
  rw [basAt_at h] at hb
  simp only [Bool.and_eq_true, decide_eq_true_eq] at hb
  exact ⟨hb.1.1.1, hb.1.1.2⟩
theorem BasTo.isP {L : List (List Int)} {k : Nat} (h : BasTo L k) {i : Nat} {z : List Int} (hi : i < k) (hz : L[i]? = some z) : isP z = true := (basAt_isP hz (h i hi)).1
theorem basis_le {L : List (List Int)} (h : basis L = true) : L.length ≤ 8 := by
  unfold basis at h
  simp only [Bool.and_eq_true, decide_eq_true_eq] at h
  exact h.2
theorem basis_isP {L : List (List Int)} (h : basis L = true) : ∀ z ∈ L, isP z = true ∧ z.length ≠ 0 := fun z hz => by
  unfold basis at h
  simp only [Bool.and_eq_true] at h
  obtain ⟨i, hi, rfl⟩ := List.getElem_of_mem hz
  exact basAt_isP (List.getElem?_eq_getElem hi) (List.all_eq_true.1 h.1 i (List.mem_range.2 hi))
/-- InClass, ClassOf. -/
def inC (L : List (List Int)) (p : List Int) : Bool := basis L && isP p && avo L p
def clsN (L : List (List Int)) (n : Nat) : List (List Int) := (permL n).filter (avo L)
def clsO (L : List (List Int)) (m : Int) : List (List Int) := if basis L = true ∧ 0 ≤ m ∧ m ≤ 6 then clsN L m.toNat else []
/-- The first k lists, those that fit. -/
def sift (g : List Int → Bool) (Z : List (List Int)) (k : Nat) : List (List Int) := (Z.take k).filter g
theorem sift_yes {g : List Int → Bool} {Z : List (List Int)} {k : Nat} {z : List Int} (h : Z[k]? = some z) (hg : g z = true) : sift g Z (k + 1) = sift g Z k ++ [z] := by
  unfold sift
  rw [List.take_add_one, h, List.filter_append]
  simp [hg]
theorem sift_no {g : List Int → Bool} {Z : List (List Int)} {k : Nat} {z : List Int} (h : Z[k]? = some z) (hg : g z = false) : sift g Z (k + 1) = sift g Z k := by
  unfold sift
  rw [List.take_add_one, h, List.filter_append]
  simp [hg]
theorem sift_le (g : List Int → Bool) (Z : List (List Int)) (k : Nat) : (sift g Z k).length ≤ k := by
  unfold sift
  exact Nat.le_trans (List.length_filter_le _ _) (by rw [List.length_take]; omega)
theorem sift_all (g : List Int → Bool) (Z : List (List Int)) : sift g Z Z.length = Z.filter g := by unfold sift; rw [List.take_length]
/-- MakeBasis: what none of those kept before occurs in. -/
def mkK (Z : List (List Int)) : Nat → List (List Int)
  | 0 => []
  | k + 1 => if avo (mkK Z k) (Z.getD k []) then mkK Z k ++ [Z.getD k []] else mkK Z k
theorem mkK_yes {Z : List (List Int)} {k : Nat} {z : List Int} (h : Z[k]? = some z) (ha : avo (mkK Z k) z = true) : mkK Z (k + 1) = mkK Z k ++ [z] := by rw [mkK, getD_row h, if_pos ha]
theorem mkK_no {Z : List (List Int)} {k : Nat} {z : List Int} (h : Z[k]? = some z) (ha : avo (mkK Z k) z = false) : mkK Z (k + 1) = mkK Z k := by rw [mkK, getD_row h, if_neg (by simp [ha])]
theorem mkK_le (Z : List (List Int)) : ∀ k, (mkK Z k).length ≤ k
  | 0 => Nat.le_refl _
  | k + 1 => by
    have := mkK_le Z k
    rw [mkK]
    split
    · rw [List.length_append, List.length_singleton]; omega
    · omega
theorem mkK_mem {Z : List (List Int)} : ∀ k, k ≤ Z.length → ∀ x ∈ mkK Z k, x ∈ Z
  | 0, _, x, hx => by cases hx
  | k + 1, hk, x, hx => by
    have h1 : Z[k]? = some (Z.getD k []) := by rw [List.getD_eq_getElem?_getD, List.getElem?_eq_getElem (by omega)]; rfl
    rw [mkK] at hx
    split at hx
    · rcases List.mem_append.1 hx with hx | hx
      · exact mkK_mem k (by omega) x hx
      · obtain rfl := List.mem_singleton.1 hx
        exact List.mem_of_getElem? h1
    · exact mkK_mem k (by omega) x hx
def mkO (L : List (List Int)) : List (List Int) := mkK (ordR L) (ordR L).length
def mkOK (L : List (List Int)) : Bool := allP L && basis (mkO L)
def mkR (L : List (List Int)) : List (List Int) := if mkOK L then mkO L else []
theorem mkR_yes {L : List (List Int)} (h : mkOK L = true) : mkR L = mkO L := by unfold mkR; rw [if_pos h]
theorem mkR_no {L : List (List Int)} (h : mkOK L = false) : mkR L = [] := by unfold mkR; rw [if_neg (by simp [h])]
end Go.Proofs.YtplchjeamooliaaGreatDoor


/-
  PLAIN: the places of a part; occurrences in the reverse and in the inverse are as many.
-/

namespace Go.Proofs.YtplchjeamooliaaGreatDoor
set_option maxRecDepth 100000

/-! lists of lists without repetition -/
theorem asc_nodup {l : List (List Int)} (h : Asc l) : l.Nodup := by
  rw [List.nodup_iff_pairwise_ne]
  exact h.imp fun {a b} h e => by rw [e, befL_irrefl] at h; exact absurd h Bool.false_ne_true
theorem subL_erase {a : List Int} {l m : List (List Int)} (hnd : (a :: l).Nodup) (h : ∀ x ∈ a :: l, x ∈ m) : ∀ x ∈ l, x ∈ m.erase a := fun x hx => by
  have hne : x ≠ a := fun e => by subst e; exact (List.nodup_cons.1 hnd).1 hx
  exact (List.mem_erase_of_ne hne).2 (h x (by simp [hx]))
theorem pigeonL_le : ∀ {l m : List (List Int)}, l.Nodup → (∀ x ∈ l, x ∈ m) → l.length ≤ m.length
  | [], _, _, _ => Nat.zero_le _
  | a :: l, m, hnd, h => by
    have ha := h a (by simp)
    have h1 := pigeonL_le (List.nodup_cons.1 hnd).2 (subL_erase hnd h)
    have h2 := List.length_pos_of_mem ha
    rw [List.length_erase_of_mem ha] at h1
    rw [List.length_cons]; omega
/-- A list that is told apart into another one is not longer. -/
theorem inject_le {l m : List (List Int)} (f : List Int → List Int) (hl : l.Nodup) (h : ∀ x ∈ l, f x ∈ m) (hf : ∀ x ∈ l, ∀ y ∈ l, f x = f y → x = y) : l.length ≤ m.length := by
  have hn : (l.map f).Nodup := by
    rw [List.nodup_iff_pairwise_ne, List.pairwise_map]
    refine List.Pairwise.imp_of_mem (fun {a b} ha hb hne e => hne (hf a ha b hb e)) (List.nodup_iff_pairwise_ne.1 hl)
  have := pigeonL_le hn (m := m) fun x hx => by
    obtain ⟨y, hy, rfl⟩ := List.mem_map.1 hx
    exact h y hy
  rwa [List.length_map] at this

/-! the reverse -/
theorem cnt_rev (l : List Int) (v : Int) : cnt l.reverse v = cnt l v := by unfold cnt; rw [List.filter_reverse, List.length_reverse]
theorem patL_rev (l : List Int) : patL l.reverse = (patL l).reverse := by
  unfold patL
  rw [List.map_reverse]
  congr 1
  exact List.map_congr_left fun x _ => by rw [cnt_rev]
def plRev (n : Nat) (pl : List Int) : List Int := (pl.map fun x => (n : Int) + 1 - x).reverse
theorem plRev_ok {n : Nat} {pl : List Int} (h : PlOK n pl) : PlOK n (plRev n pl) := by
  refine ⟨fun x hx => ?_, ?_⟩
  · unfold plRev at hx
    rw [List.mem_reverse, List.mem_map] at hx
    obtain ⟨y, hy, rfl⟩ := hx
    have := h.1 y hy; omega
  · unfold plRev
    rw [List.pairwise_reverse, List.pairwise_map]
    exact h.2.imp fun h => by omega
theorem plRev_back (n : Nat) (pl : List Int) : plRev n (plRev n pl) = pl := by
  unfold plRev
  rw [List.map_reverse, List.reverse_reverse, List.map_map]
  rw [show ((fun x => (n : Int) + 1 - x) ∘ fun x => (n : Int) + 1 - x) = id by funext x; simp only [Function.comp, id]; omega]
  exact List.map_id pl
theorem at0_rev {l : List Int} {i : Nat} (h : i < l.length) : at0 l.reverse i = at0 l (l.length - 1 - i) := at0_of (by rw [List.getElem?_reverse h]; exact at0_some (by omega))
theorem nums_rev {p pl : List Int} (h : PlOK p.length pl) : nums p.reverse (plRev p.length pl) = (nums p pl).reverse := by
  unfold nums plRev
  rw [List.map_reverse, List.map_map]
  congr 1
  refine List.map_congr_left fun x hx => ?_
  have := h.1 x hx
  simp only [Function.comp]
  rw [at0_rev (by omega)]
  congr 1; omega
theorem occ_rev {p q pl : List Int} (h : pl ∈ occR p q) : plRev p.length pl ∈ occR p.reverse q.reverse := by
  rw [mem_occ, isOcc_iff] at h ⊢
  obtain ⟨h1, h2, h3, h4, h5⟩ := h
  refine ⟨isP_rev h1, isP_rev h2, by rw [plRev, List.length_reverse, List.length_map, List.length_reverse, h3], by rw [List.length_reverse]; exact plRev_ok h4, ?_⟩
  rw [nums_rev h4, patL_rev, h5]
theorem occ_rev_le (p q : List Int) : (occR p q).length ≤ (occR p.reverse q.reverse).length :=
  inject_le (plRev p.length) (asc_nodup (occ_asc p q)) (fun _ h => occ_rev h) fun x _ y _ e => by rw [← plRev_back p.length x, e, plRev_back]
theorem occ_rev_len (p q : List Int) : (occR p.reverse q.reverse).length = (occR p q).length := by
  have h1 := occ_rev_le p q
  have h2 := occ_rev_le p.reverse q.reverse
  rw [List.reverse_reverse, List.reverse_reverse] at h2
  omega

/-! the inverse -/
/-- The places in the inverse: the numbers at the places, in ascending order. -/
def plInv (p q pl : List Int) : List Int := (List.range q.length).map fun j => at0 (nums p pl) ((at0 (invL q) j).toNat - 1)
theorem plInv_length (p q pl : List Int) : (plInv p q pl).length = q.length := by simp [plInv]
theorem plInv_at {p q pl : List Int} {j : Nat} (h : j < q.length) : at0 (plInv p q pl) j = at0 (nums p pl) ((at0 (invL q) j).toNat - 1) := at0_of (by unfold plInv; rw [List.getElem?_map, List.getElem?_range h]; rfl)
/-- A place of the inverse: where the number stands. -/
theorem inv_at {q : List Int} (hq : isP q = true) {j : Nat} (hj : j < q.length) : ∃ i, i < q.length ∧ at0 q i = (j : Int) + 1 ∧ at0 (invL q) j = (i : Int) + 1 := by
  obtain ⟨i, hi, h1, h2⟩ := invL_get hq hj
  exact ⟨i, hi, at0_of h1, at0_of h2⟩
theorem inv_val {p : List Int} (hp : isP p = true) {i : Nat} (hi : i < p.length) : at0 (invL p) ((at0 p i).toNat - 1) = (i : Int) + 1 := at0_of (invL_at hp hi (at0_some hi))
theorem rng_at {p : List Int} (hp : isP p = true) {i : Nat} (hi : i < p.length) : 1 ≤ at0 p i ∧ at0 p i ≤ (p.length : Int) := isP_range hp (at0_some hi)
theorem plOK_of {n : Nat} {l : List Int} (h1 : ∀ i, i < l.length → 1 ≤ at0 l i ∧ at0 l i ≤ (n : Int)) (h2 : ∀ i j, i < j → j < l.length → at0 l i < at0 l j) : PlOK n l := by
  refine ⟨fun x hx => ?_, List.pairwise_iff_getElem.2 fun i j hi hj hij => ?_⟩
  · obtain ⟨i, hi, rfl⟩ := List.getElem_of_mem hx
    have := h1 i hi
    rwa [at0_of (List.getElem?_eq_getElem hi)] at this
  · have := h2 i j hij hj
    rwa [at0_of (List.getElem?_eq_getElem hi), at0_of (List.getElem?_eq_getElem hj)] at this
theorem occ_inv {p q pl : List Int} (h : pl ∈ occR p q) : plInv p q pl ∈ occR (invL p) (invL q) ∧ ∀ i, i < pl.length → at0 (nums (invL p) (plInv p q pl)) ((at0 q i).toNat - 1) = at0 pl i := by
  rw [mem_occ, isOcc_iff] at h
  obtain ⟨h1, h2, h3, h4, h5⟩ := h
  have ha := (pat_eq_iff h2).1 h5
  have hnl := nums_length p pl
  have hv : ∀ i, i < pl.length → 1 ≤ at0 (nums p pl) i ∧ at0 (nums p pl) i ≤ (p.length : Int) := fun i hi => by
    have := h4.rng hi
    rw [nums_at0 hi]
    exact rng_at h1 (by omega)
  have hok : PlOK (invL p).length (plInv p q pl) := by
    rw [invL_length]
    refine plOK_of (fun i hi => ?_) fun i j hij hj => ?_
    · rw [plInv_length] at hi
      rw [plInv_at hi]
      obtain ⟨k, hk, _, e⟩ := inv_at h2 hi
      rw [e]
      have := hv k (by omega)
      rwa [show ((k : Int) + 1).toNat - 1 = k by omega]
    · rw [plInv_length] at hj
      rw [plInv_at (show i < q.length by omega), plInv_at hj]
      obtain ⟨k, hk, e1, e⟩ := inv_at h2 (show i < q.length by omega)
      obtain ⟨k', hk', e1', e'⟩ := inv_at h2 hj
      rw [e, e', show ((k : Int) + 1).toNat - 1 = k by omega, show ((k' : Int) + 1).toNat - 1 = k' by omega]
      rw [ha.2 k k' (by omega) (by omega), e1, e1']
      omega
  have hback : ∀ j, j < q.length → at0 (nums (invL p) (plInv p q pl)) j = at0 pl ((at0 (invL q) j).toNat - 1) := fun j hj => by
    rw [nums_at0 (by rw [plInv_length]; exact hj), plInv_at hj]
    obtain ⟨k, hk, _, e⟩ := inv_at h2 hj
    rw [e, show ((k : Int) + 1).toNat - 1 = k by omega, nums_at0 (by omega)]
    have := h4.rng (i := k) (by omega)
    rw [inv_val h1 (by omega)]
    omega
  refine ⟨?_, fun i hi => ?_⟩
  · rw [mem_occ, isOcc_iff]
    refine ⟨invL_isP h1, invL_isP h2, by rw [plInv_length, invL_length], hok, ?_⟩
    rw [pat_eq_iff (invL_isP h2)]
    refine ⟨by rw [nums_length, plInv_length, invL_length], fun i j hi hj => ?_⟩
    rw [nums_length, plInv_length] at hi hj
    rw [hback i hi, hback j hj]
    obtain ⟨k, hk, _, e⟩ := inv_at h2 hi
    obtain ⟨k', hk', _, e'⟩ := inv_at h2 hj
    rw [e, e', show ((k : Int) + 1).toNat - 1 = k by omega, show ((k' : Int) + 1).toNat - 1 = k' by omega]
    rcases Nat.lt_trichotomy k k' with hh | hh | hh
    · have := h4.mono hh (by omega); omega
    · subst hh; omega
    · have := h4.mono hh (by omega); omega
  · have hr := rng_at h2 (show i < q.length by omega)
    rw [hback _ (by omega), inv_val h2 (by omega), show ((i : Int) + 1).toNat - 1 = i by omega]
theorem occ_inv_le (p q : List Int) : (occR p q).length ≤ (occR (invL p) (invL q)).length :=
  inject_le (plInv p q) (asc_nodup (occ_asc p q)) (fun _ h => (occ_inv h).1) fun x hx y hy e => by
    have h1 := (isOcc_iff.1 (mem_occ.1 hx)).2.2.1
    have h2 := (isOcc_iff.1 (mem_occ.1 hy)).2.2.1
    refine ext_at0 (by omega) fun i hi => ?_
    rw [← (occ_inv hx).2 i hi, e, (occ_inv hy).2 i (by omega)]
theorem occ_inv_len {p q : List Int} (hp : isP p = true) (hq : isP q = true) : (occR (invL p) (invL q)).length = (occR p q).length := by
  have h1 := occ_inv_le p q
  have h2 := occ_inv_le (invL p) (invL q)
  rw [inv_inv hp, inv_inv hq] at h2
  omega

/-! a part of a permutation -/
theorem nums_up (a : Int) (l pl : List Int) (h : ∀ x ∈ pl, 1 ≤ x) : nums (a :: l) (pl.map fun x => x + 1) = nums l pl := by
  unfold nums
  rw [List.map_map]
  refine List.map_congr_left fun x hx => ?_
  have := h x hx
  simp only [Function.comp]
  rw [show (x + 1).toNat - 1 = x.toNat - 1 + 1 by omega, at0_succ]
theorem plOK_up {n : Nat} {pl : List Int} (h : PlOK n pl) : PlOK (n + 1) (pl.map fun x => x + 1) := by
  refine ⟨fun x hx => ?_, ?_⟩
  · obtain ⟨y, hy, rfl⟩ := List.mem_map.1 hx
    have := h.1 y hy; omega
  · rw [List.pairwise_map]
    exact h.2.imp fun h => by omega
theorem places_of {s l : List Int} (h : s.Sublist l) : ∃ pl, PlOK l.length pl ∧ nums l pl = s := by
  induction h with
  | slnil => exact ⟨[], PlOK.nil _, rfl⟩
  | cons a _ ih =>
    obtain ⟨pl, h1, h2⟩ := ih
    exact ⟨_, by rw [List.length_cons]; exact plOK_up h1, by rw [nums_up a _ pl fun x hx => (h1.1 x hx).1, h2]⟩
  | cons_cons a _ ih =>
    obtain ⟨pl, h1, h2⟩ := ih
    refine ⟨1 :: pl.map fun x => x + 1, ?_, ?_⟩
    · rw [List.length_cons]
      have h3 := plOK_up h1
      refine ⟨fun x hx => ?_, List.pairwise_cons.2 ⟨fun x hx => ?_, h3.2⟩⟩
      · rcases List.mem_cons.1 hx with rfl | hx
        · omega
        · exact h3.1 x hx
      · obtain ⟨y, hy, rfl⟩ := List.mem_map.1 hx
        have := h1.1 y hy; omega
    · have h3 := (nums_up a _ pl fun x hx => (h1.1 x hx).1).trans h2
      unfold nums at h3 ⊢
      rw [List.map_cons, h3]; rfl
theorem occ_sub {p s : List Int} (hp : isP p = true) (h : s.Sublist p) (hs : isP (patL s) = true) : 0 < (occR p (patL s)).length := by
  obtain ⟨pl, h1, h2⟩ := places_of h
  refine List.length_pos_of_mem (a := pl) ?_
  rw [mem_occ, isOcc_iff]
  exact ⟨hp, hs, by rw [patL_length, ← h2, nums_length], h1, by rw [h2]⟩
end Go.Proofs.YtplchjeamooliaaGreatDoor
