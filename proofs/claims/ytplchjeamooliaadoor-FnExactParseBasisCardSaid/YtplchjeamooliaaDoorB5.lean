/-
  Words and contracts that the laws lean on, bundled: JoinS, SymG, OccN, Pat, LowS, PatsS, ChM, ClassP, Sift.
-/
import Derived.Test.YtplchjeamooliaaDoorB2
import Derived.Test.YtplchjeamooliaaDoorB1
import Derived.Test.YtplchjeamooliaaDoorB3
import Derived.IntWalk
import Derived.Deep.RegionHeld3
import Derived.Laws.BitsLemmas

/-
  WORDS: 'out = append(out, list...)', list a list of rows made since. Nothing here speaks of a function of the program.
-/

namespace Go.Proofs.YtplchjeamooliaaDoor
set_option maxRecDepth 100000
open Go.RowKit

theorem Inner.join {w : World} {B : Nat} {vs us : List Value} {Z U : List (List Int)} (h : Inner w B vs Z) (k : Inner w B us U) (ha : ∀ x ∈ vs, ∀ y ∈ us, Away x y) : Inner w B (vs ++ us) (Z ++ U) := by
  refine ⟨by simp [h.len, k.len], fun i x ys hx hy => ?_, ?_⟩
  · have hl := h.len
    by_cases hi : i < vs.length
    · rw [List.getElem?_append_left hi] at hx
      rw [List.getElem?_append_left (by omega)] at hy
      exact h.row i x ys hx hy
    · rw [List.getElem?_append_right (by omega)] at hx
      rw [List.getElem?_append_right (by omega), ← hl] at hy
      exact k.row _ x ys hx hy
  · rw [List.pairwise_append]
    exact ⟨h.away, k.away, ha⟩
theorem own_nil {w : World} {B n c : Nat} {A : Option Addr} {e : TypeId} {xs : List Value} (h : w.ownsRow B e 1 (.slice A n c) n xs) : A = none → c = 0 := fun hA => by
  rcases h.2 with ⟨hv, _⟩ | ⟨g, cap, cur, hv, _⟩
  · injection hv
  · injection hv with h1; rw [h1] at hA; cases hA
theorem wpList_append_lists {ops : Array Oper} {rest : List Oper} {o : Oper} {a : Act} {Q : Exit → Act → World → Prop} (hgd : o.guard = none) (s x : Operand)
    (ho : o.op = .call { callee := .builtin .append, args := #[s, x], argTypes := #[22, 22] })
    (B : Nat) (W0 w0 wr : World) (v : Value) (A : Option Addr) (n c : Nat) (U Z : List (List Int)) (hs : a.eval s = v) (hx : a.eval x = .slice A n c)
    (hS : IntsS w0 B v U) (hb0 : Below w0.heap.size w0 wr) (hZ : IntsS wr w0.heap.size (.slice A n c) Z) (hU : U.length ≤ 1048576) (hn : n ≤ 1048576) (hb : Below B W0 wr) (hB : B ≤ w0.heap.size)
    (K : ∀ v' w', IntsS w' B v' (U ++ Z) → Below B W0 w' → wpList Tryd.prog ops Q rest (a.put o.dst v') w') : wpList Tryd.prog ops Q (o :: rest) a wr := by
  have hl := hZ.len
  subst hl
  obtain ⟨vs, h1, h2⟩ := hS
  obtain ⟨us, k1, k2⟩ := hZ
  have h3 := own_below h1 hb0
  have h4 := h2.keepI (KeepI.of_below hb0)
  have hr := Reads.of_own_at k1
  refine wpList_append_rows hgd s x ho B wr.heap.size U.length Z.length c W0 v A vs us hs hx h3 hr (own_nil k1) (fun u hu => ?_) (by omega) (by omega) hb (Nat.le_trans hB hb0.size) ?_
  · obtain ⟨z, hz⟩ := k2.mem hu
    obtain ⟨A9, c9, rfl⟩ := hz.slice
    rfl
  · intro v' w' o1 o2 o3 _
    have hk := KeepI.of_grown h3 o3
    refine K v' w' ⟨vs ++ us, by rw [List.length_append]; exact o1, (h4.keepI hk).join ((k2.keepI hk).low hB) fun x hx y hy => ?_⟩ o2
    obtain ⟨z, hz⟩ := k2.mem hy
    exact (h2.away_new hz.since (Nat.le_refl _)) x hx
end Go.Proofs.YtplchjeamooliaaDoor


/-
  PLAIN: the eight symmetries are a group of eight; classes are the same for their elements; their sizes divide eight.
-/

namespace Go.Proofs.YtplchjeamooliaaDoor
set_option maxRecDepth 100000

def invL (p : List Int) : List Int := invFill p p.length
theorem invL_length (p : List Int) : (invL p).length = p.length := invFill_length p _
theorem invL_isP {p : List Int} (h : isP p = true) : isP (invL p) = true := isP_inv h
theorem invL_at {p : List Int} (h : isP p = true) {i : Nat} {z : Int} (hi : i < p.length) (hz : p[i]? = some z) : (invL p)[z.toNat - 1]? = some ((i : Int) + 1) :=
  invFill_at (isP_true.1 h).2.1 (isP_true.1 h).2.2 p.length i z hi (Nat.le_refl _) hz
/-- What is at a place of the inverse. -/
theorem invL_get {p : List Int} (h : isP p = true) {j : Nat} (hj : j < p.length) : ∃ i, i < p.length ∧ p[i]? = some ((j : Int) + 1) ∧ (invL p)[j]? = some ((i : Int) + 1) := by
  have hin := (nodup_iff_all (isP_true.1 h).2.1).1 (isP_true.1 h).2.2 j hj
  obtain ⟨i, hi, he⟩ := List.getElem_of_mem hin
  have h1 : p[i]? = some ((j : Int) + 1) := by rw [List.getElem?_eq_getElem hi, he]
  refine ⟨i, hi, h1, ?_⟩
  have := invL_at h hi h1
  rwa [show ((j : Int) + 1).toNat - 1 = j by omega] at this
/-- A list is the inverse if it has the inverse's places. -/
theorem invL_of {p q : List Int} (h : isP p = true) (hl : q.length = p.length) (hq : ∀ (i : Nat) (z : Int), p[i]? = some z → q[z.toNat - 1]? = some ((i : Int) + 1)) : invL p = q := by
  refine List.ext_getElem? fun j => ?_
  by_cases hj : j < p.length
  · obtain ⟨i, hi, h1, h2⟩ := invL_get h hj
    have := hq i _ h1
    rw [show ((j : Int) + 1).toNat - 1 = j by omega] at this
    rw [h2, this]
  · rw [List.getElem?_eq_none (by rw [invL_length]; omega), List.getElem?_eq_none (by omega)]
theorem inv_inv {p : List Int} (h : isP p = true) : invL (invL p) = p := by
  refine invL_of (invL_isP h) (invL_length p).symm fun j z hz => ?_
  have hj : j < p.length := by have := (List.getElem?_eq_some_iff.1 hz).1; rwa [invL_length] at this
  obtain ⟨i, hi, h1, h2⟩ := invL_get h hj
  rw [h2] at hz
  obtain rfl := Option.some.inj hz
  rw [show ((i : Int) + 1).toNat - 1 = i by omega, h1]
theorem inv_rev {p : List Int} (h : isP p = true) : invL p.reverse = cplL (invL p) := by
  refine invL_of (isP_rev h) (by rw [cplL_length, invL_length, List.length_reverse]) fun i z hz => ?_
  have hi : i < p.length := by have := (List.getElem?_eq_some_iff.1 hz).1; rwa [List.length_reverse] at this
  rw [List.getElem?_reverse hi] at hz
  have h1 := invL_at h (by omega) hz
  rw [cplL_at h1, invL_length]
  congr 1
  omega
theorem inv_cpl {p : List Int} (h : isP p = true) : invL (cplL p) = (invL p).reverse := by
  refine invL_of (isP_cpl h) (by rw [cplL_length, List.length_reverse, invL_length]) fun i z hz => ?_
  have hi : i < p.length := by have := (List.getElem?_eq_some_iff.1 hz).1; rwa [cplL_length] at this
  have hp := at0_some hi
  rw [cplL_at hp] at hz
  obtain rfl := Option.some.inj hz
  have hr := isP_range h hp
  have h1 := invL_at h hi hp
  rw [List.getElem?_reverse (by rw [invL_length]; omega), invL_length]
  rw [show p.length - 1 - (((p.length : Int) + 1 - at0 p i).toNat - 1) = (at0 p i).toNat - 1 by omega]
  exact h1
theorem cpl_rev (p : List Int) : cplL p.reverse = (cplL p).reverse := by
  unfold cplL
  rw [List.length_reverse, List.map_reverse]

/-- The steps on the numbers of the symmetries. -/
def sI (k : Nat) : Nat := (if 4 ≤ k then 2 else 0) + (if k / 2 % 2 = 1 then 4 else 0) + (if k % 2 = 1 then 0 else 1)
def sR (k : Nat) : Nat := if k / 2 % 2 = 1 then k - 2 else k + 2
def sC (k : Nat) : Nat := if 4 ≤ k then k - 4 else k + 4
def mulS (k j : Nat) : Nat :=
  let a := if j % 2 = 1 then sI k else k
  let b := if j / 2 % 2 = 1 then sR a else a
  if 4 ≤ j then sC b else b
theorem mulS_lt : ∀ k, k < 8 → ∀ j, j < 8 → mulS k j < 8 := by decide
theorem sym_list (p : List Int) : symL p 0 = p ∧ symL p 1 = invL p ∧ symL p 2 = p.reverse ∧ symL p 3 = (invL p).reverse ∧ symL p 4 = cplL p ∧ symL p 5 = cplL (invL p) ∧ symL p 6 = cplL p.reverse ∧ symL p 7 = cplL (invL p).reverse := by
  refine ⟨?_, ?_, ?_, ?_, ?_, ?_, ?_, ?_⟩ <;> simp [symL, sym2, sym1, invL]
theorem inv_sym {p : List Int} (h : isP p = true) : ∀ k, k < 8 → invL (symL p k) = symL p (sI k) := by
  obtain ⟨e0, e1, e2, e3, e4, e5, e6, e7⟩ := sym_list p
  have hi := invL_isP h
  intro k hk
  rcases (show k = 0 ∨ k = 1 ∨ k = 2 ∨ k = 3 ∨ k = 4 ∨ k = 5 ∨ k = 6 ∨ k = 7 by omega) with rfl | rfl | rfl | rfl | rfl | rfl | rfl | rfl
  · rw [e0, show sI 0 = 1 from rfl, e1]
  · rw [e1, show sI 1 = 0 from rfl, e0, inv_inv h]
  · rw [e2, show sI 2 = 5 from rfl, e5, inv_rev h]
  · rw [e3, show sI 3 = 4 from rfl, e4, inv_rev hi, inv_inv h]
  · rw [e4, show sI 4 = 3 from rfl, e3, inv_cpl h]
  · rw [e5, show sI 5 = 2 from rfl, e2, inv_cpl hi, inv_inv h]
  · rw [e6, show sI 6 = 7 from rfl, e7, inv_cpl (isP_rev h), inv_rev h, cpl_rev]
  · rw [e7, show sI 7 = 6 from rfl, e6, inv_cpl (isP_rev hi), inv_rev hi, inv_inv h, cpl_rev]
theorem rev_sym (p : List Int) : ∀ k, k < 8 → (symL p k).reverse = symL p (sR k) := by
  obtain ⟨e0, e1, e2, e3, e4, e5, e6, e7⟩ := sym_list p
  intro k hk
  rcases (show k = 0 ∨ k = 1 ∨ k = 2 ∨ k = 3 ∨ k = 4 ∨ k = 5 ∨ k = 6 ∨ k = 7 by omega) with rfl | rfl | rfl | rfl | rfl | rfl | rfl | rfl
  · rw [e0, show sR 0 = 2 from rfl, e2]
  · rw [e1, show sR 1 = 3 from rfl, e3]
  · rw [e2, show sR 2 = 0 from rfl, e0, List.reverse_reverse]
  · rw [e3, show sR 3 = 1 from rfl, e1, List.reverse_reverse]
  · rw [e4, show sR 4 = 6 from rfl, e6, cpl_rev]
  · rw [e5, show sR 5 = 7 from rfl, e7, cpl_rev]
  · rw [e6, show sR 6 = 4 from rfl, e4, cpl_rev, List.reverse_reverse]
  · rw [e7, show sR 7 = 5 from rfl, e5, cpl_rev, List.reverse_reverse]
theorem cpl_sym (p : List Int) : ∀ k, k < 8 → cplL (symL p k) = symL p (sC k) := by
  obtain ⟨e0, e1, e2, e3, e4, e5, e6, e7⟩ := sym_list p
  intro k hk
  rcases (show k = 0 ∨ k = 1 ∨ k = 2 ∨ k = 3 ∨ k = 4 ∨ k = 5 ∨ k = 6 ∨ k = 7 by omega) with rfl | rfl | rfl | rfl | rfl | rfl | rfl | rfl
  · rw [e0, show sC 0 = 4 from rfl, e4]
  · rw [e1, show sC 1 = 5 from rfl, e5]
  · rw [e2, show sC 2 = 6 from rfl, e6]
  · rw [e3, show sC 3 = 7 from rfl, e7]
  · rw [e4, show sC 4 = 0 from rfl, e0, cpl_cpl]
  · rw [e5, show sC 5 = 1 from rfl, e1, cpl_cpl]
  · rw [e6, show sC 6 = 2 from rfl, e2, cpl_cpl]
  · rw [e7, show sC 7 = 3 from rfl, e3, cpl_cpl]
theorem sI_lt : ∀ k, k < 8 → sI k < 8 := by decide
theorem sR_lt : ∀ k, k < 8 → sR k < 8 := by decide
/-- A symmetry of a symmetry. -/
theorem sym_sym {p : List Int} (h : isP p = true) {k j : Nat} (hk : k < 8) (_hj : j < 8) : symL (symL p k) j = symL p (mulS k j) := by
  have e1 : sym1 (symL p k) j = symL p (if j % 2 = 1 then sI k else k) := by
    unfold sym1
    split
    · exact inv_sym h k hk
    · rfl
  have l1 : (if j % 2 = 1 then sI k else k) < 8 := by
    split
    · exact sI_lt k hk
    · exact hk
  have e2 : sym2 (symL p k) j = symL p (if j / 2 % 2 = 1 then sR (if j % 2 = 1 then sI k else k) else (if j % 2 = 1 then sI k else k)) := by
    unfold sym2
    rw [e1]
    by_cases hb : j / 2 % 2 = 1
    · rw [if_pos hb, if_pos hb]; exact rev_sym p _ l1
    · rw [if_neg hb, if_neg hb]
  have l2 : (if j / 2 % 2 = 1 then sR (if j % 2 = 1 then sI k else k) else (if j % 2 = 1 then sI k else k)) < 8 := by
    by_cases hb : j / 2 % 2 = 1
    · rw [if_pos hb]; exact sR_lt _ l1
    · rw [if_neg hb]; exact l1
  have e3 : symL (symL p k) j = if 4 ≤ j then cplL (sym2 (symL p k) j) else sym2 (symL p k) j := rfl
  rw [e3, e2]
  by_cases hb : 4 ≤ j
  · rw [if_pos hb, cpl_sym p _ l2]
    congr 1
    simp only [mulS]
    rw [if_pos hb]
  · rw [if_neg hb]
    congr 1
    simp only [mulS]
    rw [if_neg hb]
theorem mulS_onto : ∀ k, k < 8 → ∀ i, i < 8 → ∃ j, j < 8 ∧ mulS k j = i := by decide
theorem mem_imgs {p x : List Int} : x ∈ imgs p 8 ↔ ∃ j, j < 8 ∧ symL p j = x := by
  unfold imgs
  simp [List.mem_map, List.mem_range]
theorem mem_cls {p x : List Int} (h : isP p = true) : x ∈ clsR p ↔ ∃ j, j < 8 ∧ symL p j = x := by
  rw [clsR_yes h, ordR_yes (imgs_all h 8), ordL_mem, List.take_length, mem_imgs]
theorem asc_cls {p : List Int} (h : isP p = true) : Asc (clsR p) := by
  rw [clsR_yes h, ordR_yes (imgs_all h 8)]
  exact ordL_asc _ _
theorem cls_sym {p : List Int} (h : isP p = true) {k : Nat} (hk : k < 8) : clsR (symL p k) = clsR p := by
  refine asc_unique (asc_cls (symL_isP h k)) (asc_cls h) fun x => ?_
  rw [mem_cls (symL_isP h k), mem_cls h]
  constructor
  · rintro ⟨j, hj, rfl⟩
    exact ⟨mulS k j, mulS_lt k hk j hj, (sym_sym h hk hj).symm⟩
  · rintro ⟨i, hi, rfl⟩
    obtain ⟨j, hj, e⟩ := mulS_onto k hk i hi
    exact ⟨j, hj, by rw [sym_sym h hk hj, e]⟩
/-- The number of the inverse symmetry. -/
def invS (k : Nat) : Nat := if k = 3 then 5 else if k = 5 then 3 else k
theorem mulS_inv : ∀ k, k < 8 → mulS k (invS k) = 0 := by decide
theorem invS_lt : ∀ k, k < 8 → invS k < 8 := by decide
theorem mulS_back : ∀ k, k < 8 → ∀ j, j < 8 → mulS (mulS j (invS k)) k = j := by decide
theorem mulS_zero : ∀ k, k < 8 → mulS 0 k = k := by decide
/-- Two images are the same exactly if one symmetry leaves the permutation as it is. -/
theorem sym_eq {p : List Int} (h : isP p = true) {i j : Nat} (hi : i < 8) (hj : j < 8) : symL p i = symL p j ↔ symL p (mulS j (invS i)) = p := by
  have hii := invS_lt i hi
  constructor
  · intro e
    rw [← sym_sym h hj hii, ← e, sym_sym h hi hii, mulS_inv i hi]
    exact (sym_list p).1
  · intro e
    have h2 := mulS_lt j hj _ hii
    have h3 := sym_sym h h2 hi
    rw [e, mulS_back i hi j hj] at h3
    exact h3
/-- The numbers of the first images. -/
def firsts (e : Nat → Bool) : List Nat := (List.range 8).filter fun j => (List.range j).all fun i => !e (mulS j (invS i))
def tab (b0 b1 b2 b3 b4 b5 b6 b7 : Bool) (k : Nat) : Bool := [b0, b1, b2, b3, b4, b5, b6, b7].getD k false
theorem div8 : ∀ b1 b2 b3 b4 b5 b6 b7 : Bool, (∀ i, i < 8 → ∀ j, j < 8 → tab true b1 b2 b3 b4 b5 b6 b7 i = true → tab true b1 b2 b3 b4 b5 b6 b7 j = true → tab true b1 b2 b3 b4 b5 b6 b7 (mulS i j) = true) →
    8 % (firsts (tab true b1 b2 b3 b4 b5 b6 b7)).length = 0 := by decide +kernel
theorem cls_div {p : List Int} (h : isP p = true) : 0 < (clsR p).length ∧ 8 % (clsR p).length = 0 := by
  refine ⟨List.length_pos_iff.2 (clsR_ne h), ?_⟩
  obtain ⟨e, he⟩ : ∃ e : Nat → Bool, e = fun k => decide (symL p k = p) := ⟨_, rfl⟩
  have hE : ∀ k, e k = true ↔ symL p k = p := fun k => by rw [he]; simp
  -- the first images are the class
  have hperm : (clsR p).Perm ((firsts e).map fun j => symL p j) := by
    have hn1 : (clsR p).Nodup := by
      rw [List.nodup_iff_pairwise_ne]
      exact (asc_cls h).imp fun hab e => by subst e; rw [befL_irrefl] at hab; cases hab
    have hn2 : ((firsts e).map fun j => symL p j).Nodup := by
      rw [List.nodup_iff_pairwise_ne, List.pairwise_map]
      unfold firsts
      have hlt : ((List.range 8).filter fun j => (List.range j).all fun i => !e (mulS j (invS i))).Pairwise (· < ·) := List.pairwise_lt_range.sublist List.filter_sublist
      refine hlt.imp_of_mem fun {i j} hi hj hij heq => ?_
      have hi8 := List.mem_range.1 (List.mem_filter.1 hi).1
      have hj8 := List.mem_range.1 (List.mem_filter.1 hj).1
      have hall := (List.mem_filter.1 hj).2
      rw [List.all_eq_true] at hall
      have h2 := hall i (List.mem_range.2 hij)
      have h3 := (hE _).2 ((sym_eq h hi8 hj8).1 heq)
      rw [h3] at h2
      cases h2
    refine (List.perm_ext_iff_of_nodup hn1 hn2).2 fun x => ?_
    rw [mem_cls h, List.mem_map]
    constructor
    · rintro ⟨j, hj, rfl⟩
      -- the least number with this image
      have hleast : ∀ n, ∀ j, j ≤ n → j < 8 → ∃ i, i ∈ firsts e ∧ symL p i = symL p j := fun n => by
        induction n with
        | zero =>
          intro j hj _
          obtain rfl : j = 0 := by omega
          exact ⟨0, by simp [firsts, List.mem_filter], rfl⟩
        | succ n ih =>
          intro j hj hj8
          by_cases hf : j ∈ firsts e
          · exact ⟨j, hf, rfl⟩
          · have : ∃ i, i < j ∧ e (mulS j (invS i)) = true := by
              refine Classical.byContradiction fun hc => hf ?_
              refine List.mem_filter.2 ⟨List.mem_range.2 hj8, ?_⟩
              rw [List.all_eq_true]
              intro i hi
              cases hb : e (mulS j (invS i)) with
              | false => rfl
              | true => exact absurd ⟨i, List.mem_range.1 hi, hb⟩ hc
            obtain ⟨i, hij, hb⟩ := this
            obtain ⟨i', h1, h2⟩ := ih i (by omega) (by omega)
            exact ⟨i', h1, h2.trans ((sym_eq h (by omega) hj8).2 ((hE _).1 hb))⟩
      obtain ⟨i, h1, h2⟩ := hleast j j (Nat.le_refl _) hj
      exact ⟨i, h1, h2⟩
    · rintro ⟨i, hi, rfl⟩
      exact ⟨i, List.mem_range.1 (List.mem_filter.1 hi).1, rfl⟩
  rw [hperm.length_eq, List.length_map]
  -- the numbers that leave p as it is are closed
  have hclosed : ∀ i, i < 8 → ∀ j, j < 8 → e i = true → e j = true → e (mulS i j) = true := fun i hi j hj h1 h2 => by
    rw [hE] at h1 h2 ⊢
    rw [← sym_sym h hi hj, h1, h2]
  have htab : ∀ k, k < 8 → tab true (e 1) (e 2) (e 3) (e 4) (e 5) (e 6) (e 7) k = e k := fun k hk => by
    have e0 : e 0 = true := (hE 0).2 (sym_list p).1
    rcases (show k = 0 ∨ k = 1 ∨ k = 2 ∨ k = 3 ∨ k = 4 ∨ k = 5 ∨ k = 6 ∨ k = 7 by omega) with rfl | rfl | rfl | rfl | rfl | rfl | rfl | rfl
    · exact e0.symm
    all_goals rfl
  have hfe : firsts e = firsts (tab true (e 1) (e 2) (e 3) (e 4) (e 5) (e 6) (e 7)) := by
    unfold firsts
    refine List.filter_congr fun j hj => ?_
    have hj8 := List.mem_range.1 hj
    rw [Bool.eq_iff_iff, List.all_eq_true, List.all_eq_true]
    refine forall_congr' fun i => ?_
    constructor
    · intro h1 hi
      rw [htab _ (mulS_lt j hj8 _ (invS_lt i (by have := List.mem_range.1 hi; omega)))]
      exact h1 hi
    · intro h1 hi
      rw [← htab _ (mulS_lt j hj8 _ (invS_lt i (by have := List.mem_range.1 hi; omega)))]
      exact h1 hi
  rw [hfe]
  refine div8 _ _ _ _ _ _ _ fun i hi j hj h1 h2 => ?_
  rw [htab i hi] at h1
  rw [htab j hj] at h2
  rw [htab _ (mulS_lt i hi j hj)]
  exact hclosed i hi j hj h1 h2
end Go.Proofs.YtplchjeamooliaaDoor


/-
  PLAIN: the places of a part; occurrences in the reverse and in the inverse are as many.
-/

namespace Go.Proofs.YtplchjeamooliaaDoor
set_option maxRecDepth 100000

/-! lists of lists without repetition -/
theorem asc_nodup {l : List (List Int)} (h : Asc l) : l.Nodup := by
  rw [List.nodup_iff_pairwise_ne]
  exact h.imp fun {a b} h e => by rw [e, befL_irrefl] at h; exact absurd h Bool.false_ne_true
theorem subL_erase {a : List Int} {l m : List (List Int)} (hnd : (a :: l).Nodup) (h : ∀ x ∈ a :: l, x ∈ m) : ∀ x ∈ l, x ∈ m.erase a := fun x hx => by
  have hne : x ≠ a := fun e => by subst e; exact (List.nodup_cons.1 hnd).1 hx
  exact (List.mem_erase_of_ne hne).2 (h x (by simp [hx]))
theorem pigeonL_le : ∀ {l m : List (List Int)}, l.Nodup → (∀ x ∈ l, x ∈ m) → l.length ≤ m.length
  | [], _, _, _ => Nat.zero_le _
  | a :: l, m, hnd, h => by
    have ha := h a (by simp)
    have h1 := pigeonL_le (List.nodup_cons.1 hnd).2 (subL_erase hnd h)
    have h2 := List.length_pos_of_mem ha
    rw [List.length_erase_of_mem ha] at h1
    rw [List.length_cons]; omega
/-- A list that is told apart into another one is not longer. -/
theorem inject_le {l m : List (List Int)} (f : List Int → List Int) (hl : l.Nodup) (h : ∀ x ∈ l, f x ∈ m) (hf : ∀ x ∈ l, ∀ y ∈ l, f x = f y → x = y) : l.length ≤ m.length := by
  have hn : (l.map f).Nodup := by
    rw [List.nodup_iff_pairwise_ne, List.pairwise_map]
    refine List.Pairwise.imp_of_mem (fun {a b} ha hb hne e => hne (hf a ha b hb e)) (List.nodup_iff_pairwise_ne.1 hl)
  have := pigeonL_le hn (m := m) fun x hx => by
    obtain ⟨y, hy, rfl⟩ := List.mem_map.1 hx
    exact h y hy
  rwa [List.length_map] at this

/-! the reverse -/
theorem cnt_rev (l : List Int) (v : Int) : cnt l.reverse v = cnt l v := by unfold cnt; rw [List.filter_reverse, List.length_reverse]
theorem patL_rev (l : List Int) : patL l.reverse = (patL l).reverse := by
  unfold patL
  rw [List.map_reverse]
  congr 1
  exact List.map_congr_left fun x _ => by rw [cnt_rev]
def plRev (n : Nat) (pl : List Int) : List Int := (pl.map fun x => (n : Int) + 1 - x).reverse
theorem plRev_ok {n : Nat} {pl : List Int} (h : PlOK n pl) : PlOK n (plRev n pl) := by
  refine ⟨fun x hx => ?_, ?_⟩
  · unfold plRev at hx
    rw [List.mem_reverse, List.mem_map] at hx
    obtain ⟨y, hy, rfl⟩ := hx
    have := h.1 y hy; omega
  · unfold plRev
    rw [List.pairwise_reverse, List.pairwise_map]
    exact h.2.imp fun h => by omega
theorem plRev_back (n : Nat) (pl : List Int) : plRev n (plRev n pl) = pl := by
  unfold plRev
  rw [List.map_reverse, List.reverse_reverse, List.map_map]
  rw [show ((fun x => (n : Int) + 1 - x) ∘ fun x => (n : Int) + 1 - x) = id by funext x; simp only [Function.comp, id]; omega]
  exact List.map_id pl
theorem at0_rev {l : List Int} {i : Nat} (h : i < l.length) : at0 l.reverse i = at0 l (l.length - 1 - i) := at0_of (by rw [List.getElem?_reverse h]; exact at0_some (by omega))
theorem nums_rev {p pl : List Int} (h : PlOK p.length pl) : nums p.reverse (plRev p.length pl) = (nums p pl).reverse := by
  unfold nums plRev
  rw [List.map_reverse, List.map_map]
  congr 1
  refine List.map_congr_left fun x hx => ?_
  have := h.1 x hx
  simp only [Function.comp]
  rw [at0_rev (by omega)]
  congr 1; omega
theorem occ_rev {p q pl : List Int} (h : pl ∈ occR p q) : plRev p.length pl ∈ occR p.reverse q.reverse := by
  rw [mem_occ, isOcc_iff] at h ⊢
  obtain ⟨h1, h2, h3, h4, h5⟩ := h
  refine ⟨isP_rev h1, isP_rev h2, by rw [plRev, List.length_reverse, List.length_map, List.length_reverse, h3], by rw [List.length_reverse]; exact plRev_ok h4, ?_⟩
  rw [nums_rev h4, patL_rev, h5]
theorem occ_rev_le (p q : List Int) : (occR p q).length ≤ (occR p.reverse q.reverse).length :=
  inject_le (plRev p.length) (asc_nodup (occ_asc p q)) (fun _ h => occ_rev h) fun x _ y _ e => by rw [← plRev_back p.length x, e, plRev_back]
theorem occ_rev_len (p q : List Int) : (occR p.reverse q.reverse).length = (occR p q).length := by
  have h1 := occ_rev_le p q
  have h2 := occ_rev_le p.reverse q.reverse
  rw [List.reverse_reverse, List.reverse_reverse] at h2
  omega

/-! the inverse -/
/-- The places in the inverse: the numbers at the places, in ascending order. -/
def plInv (p q pl : List Int) : List Int := (List.range q.length).map fun j => at0 (nums p pl) ((at0 (invL q) j).toNat - 1)
theorem plInv_length (p q pl : List Int) : (plInv p q pl).length = q.length := by simp [plInv]
theorem plInv_at {p q pl : List Int} {j : Nat} (h : j < q.length) : at0 (plInv p q pl) j = at0 (nums p pl) ((at0 (invL q) j).toNat - 1) := at0_of (by unfold plInv; rw [List.getElem?_map, List.getElem?_range h]; rfl)
/-- A place of the inverse: where the number stands. -/
theorem inv_at {q : List Int} (hq : isP q = true) {j : Nat} (hj : j < q.length) : ∃ i, i < q.length ∧ at0 q i = (j : Int) + 1 ∧ at0 (invL q) j = (i : Int) + 1 := by
  obtain ⟨i, hi, h1, h2⟩ := invL_get hq hj
  exact ⟨i, hi, at0_of h1, at0_of h2⟩
theorem inv_val {p : List Int} (hp : isP p = true) {i : Nat} (hi : i < p.length) : at0 (invL p) ((at0 p i).toNat - 1) = (i : Int) + 1 := at0_of (invL_at hp hi (at0_some hi))
theorem rng_at {p : List Int} (hp : isP p = true) {i : Nat} (hi : i < p.length) : 1 ≤ at0 p i ∧ at0 p i ≤ (p.length : Int) := isP_range hp (at0_some hi)
theorem plOK_of {n : Nat} {l : List Int} (h1 : ∀ i, i < l.length → 1 ≤ at0 l i ∧ at0 l i ≤ (n : Int)) (h2 : ∀ i j, i < j → j < l.length → at0 l i < at0 l j) : PlOK n l := by
  refine ⟨fun x hx => ?_, List.pairwise_iff_getElem.2 fun i j hi hj hij => ?_⟩
  · obtain ⟨i, hi, rfl⟩ := List.getElem_of_mem hx
    have := h1 i hi
    rwa [at0_of (List.getElem?_eq_getElem hi)] at this
  · have := h2 i j hij hj
    rwa [at0_of (List.getElem?_eq_getElem hi), at0_of (List.getElem?_eq_getElem hj)] at this
theorem occ_inv {p q pl : List Int} (h : pl ∈ occR p q) : plInv p q pl ∈ occR (invL p) (invL q) ∧ ∀ i, i < pl.length → at0 (nums (invL p) (plInv p q pl)) ((at0 q i).toNat - 1) = at0 pl i := by
  rw [mem_occ, isOcc_iff] at h
  obtain ⟨h1, h2, h3, h4, h5⟩ := h
  have ha := (pat_eq_iff h2).1 h5
  have hnl := nums_length p pl
  have hv : ∀ i, i < pl.length → 1 ≤ at0 (nums p pl) i ∧ at0 (nums p pl) i ≤ (p.length : Int) := fun i hi => by
    have := h4.rng hi
    rw [nums_at0 hi]
    exact rng_at h1 (by omega)
  have hok : PlOK (invL p).length (plInv p q pl) := by
    rw [invL_length]
    refine plOK_of (fun i hi => ?_) fun i j hij hj => ?_
    · rw [plInv_length] at hi
      rw [plInv_at hi]
      obtain ⟨k, hk, _, e⟩ := inv_at h2 hi
      rw [e]
      have := hv k (by omega)
      rwa [show ((k : Int) + 1).toNat - 1 = k by omega]
    · rw [plInv_length] at hj
      rw [plInv_at (show i < q.length by omega), plInv_at hj]
      obtain ⟨k, hk, e1, e⟩ := inv_at h2 (show i < q.length by omega)
      obtain ⟨k', hk', e1', e'⟩ := inv_at h2 hj
      rw [e, e', show ((k : Int) + 1).toNat - 1 = k by omega, show ((k' : Int) + 1).toNat - 1 = k' by omega]
      rw [ha.2 k k' (by omega) (by omega), e1, e1']
      omega
  have hback : ∀ j, j < q.length → at0 (nums (invL p) (plInv p q pl)) j = at0 pl ((at0 (invL q) j).toNat - 1) := fun j hj => by
    rw [nums_at0 (by rw [plInv_length]; exact hj), plInv_at hj]
    obtain ⟨k, hk, _, e⟩ := inv_at h2 hj
    rw [e, show ((k : Int) + 1).toNat - 1 = k by omega, nums_at0 (by omega)]
    have := h4.rng (i := k) (by omega)
    rw [inv_val h1 (by omega)]
    omega
  refine ⟨?_, fun i hi => ?_⟩
  · rw [mem_occ, isOcc_iff]
    refine ⟨invL_isP h1, invL_isP h2, by rw [plInv_length, invL_length], hok, ?_⟩
    rw [pat_eq_iff (invL_isP h2)]
    refine ⟨by rw [nums_length, plInv_length, invL_length], fun i j hi hj => ?_⟩
    rw [nums_length, plInv_length] at hi hj
    rw [hback i hi, hback j hj]
    obtain ⟨k, hk, _, e⟩ := inv_at h2 hi
    obtain ⟨k', hk', _, e'⟩ := inv_at h2 hj
    rw [e, e', show ((k : Int) + 1).toNat - 1 = k by omega, show ((k' : Int) + 1).toNat - 1 = k' by omega]
    rcases Nat.lt_trichotomy k k' with hh | hh | hh
    · have := h4.mono hh (by omega); omega
    · subst hh; omega
    · have := h4.mono hh (by omega); omega
  · have hr := rng_at h2 (show i < q.length by omega)
    rw [hback _ (by omega), inv_val h2 (by omega), show ((i : Int) + 1).toNat - 1 = i by omega]
theorem occ_inv_le (p q : List Int) : (occR p q).length ≤ (occR (invL p) (invL q)).length :=
  inject_le (plInv p q) (asc_nodup (occ_asc p q)) (fun _ h => (occ_inv h).1) fun x hx y hy e => by
    have h1 := (isOcc_iff.1 (mem_occ.1 hx)).2.2.1
    have h2 := (isOcc_iff.1 (mem_occ.1 hy)).2.2.1
    refine ext_at0 (by omega) fun i hi => ?_
    rw [← (occ_inv hx).2 i hi, e, (occ_inv hy).2 i (by omega)]
theorem occ_inv_len {p q : List Int} (hp : isP p = true) (hq : isP q = true) : (occR (invL p) (invL q)).length = (occR p q).length := by
  have h1 := occ_inv_le p q
  have h2 := occ_inv_le (invL p) (invL q)
  rw [inv_inv hp, inv_inv hq] at h2
  omega

/-! a part of a permutation -/
theorem nums_up (a : Int) (l pl : List Int) (h : ∀ x ∈ pl, 1 ≤ x) : nums (a :: l) (pl.map fun x => x + 1) = nums l pl := by
  unfold nums
  rw [List.map_map]
  refine List.map_congr_left fun x hx => ?_
  have := h x hx
  simp only [Function.comp]
  rw [show (x + 1).toNat - 1 = x.toNat - 1 + 1 by omega, at0_succ]
theorem plOK_up {n : Nat} {pl : List Int} (h : PlOK n pl) : PlOK (n + 1) (pl.map fun x => x + 1) := by
  refine ⟨fun x hx => ?_, ?_⟩
  · obtain ⟨y, hy, rfl⟩ := List.mem_map.1 hx
    have := h.1 y hy; omega
  · rw [List.pairwise_map]
    exact h.2.imp fun h => by omega
theorem places_of {s l : List Int} (h : s.Sublist l) : ∃ pl, PlOK l.length pl ∧ nums l pl = s := by
  induction h with
  | slnil => exact ⟨[], PlOK.nil _, rfl⟩
  | cons a _ ih =>
    obtain ⟨pl, h1, h2⟩ := ih
    exact ⟨_, by rw [List.length_cons]; exact plOK_up h1, by rw [nums_up a _ pl fun x hx => (h1.1 x hx).1, h2]⟩
  | cons_cons a _ ih =>
    obtain ⟨pl, h1, h2⟩ := ih
    refine ⟨1 :: pl.map fun x => x + 1, ?_, ?_⟩
    · rw [List.length_cons]
      have h3 := plOK_up h1
      refine ⟨fun x hx => ?_, List.pairwise_cons.2 ⟨fun x hx => ?_, h3.2⟩⟩
      · rcases List.mem_cons.1 hx with rfl | hx
        · omega
        · exact h3.1 x hx
      · obtain ⟨y, hy, rfl⟩ := List.mem_map.1 hx
        have := h1.1 y hy; omega
    · have h3 := (nums_up a _ pl fun x hx => (h1.1 x hx).1).trans h2
      unfold nums at h3 ⊢
      rw [List.map_cons, h3]; rfl
theorem occ_sub {p s : List Int} (hp : isP p = true) (h : s.Sublist p) (hs : isP (patL s) = true) : 0 < (occR p (patL s)).length := by
  obtain ⟨pl, h1, h2⟩ := places_of h
  refine List.length_pos_of_mem (a := pl) ?_
  rw [mem_occ, isOcc_iff]
  exact ⟨hp, hs, by rw [patL_length, ← h2, nums_length], h1, by rw [h2]⟩
end Go.Proofs.YtplchjeamooliaaDoor


/-
  spec.PatternOf and impl.PatternOf, by their contracts.
-/

namespace Go.Proofs.YtplchjeamooliaaDoor
set_option maxRecDepth 100000
open Go.RowKit

theorem cnt_at {zs : List Int} {k : Nat} {x v : Int} (h : zs[k]? = some x) : cnt (zs.take (k + 1)) v = cnt (zs.take k) v + if x < v then 1 else 0 := by rw [take_snoc_i h, cnt_snoc]

set_option maxHeartbeats 400000 in
theorem less_any (A : Option Addr) (n c B : Nat) (zs : List Int) (v : Int) (w : World) (h : Arg w B A n c zs) :
    Calls Tryd.prog 88 #[.slice A n c, .int .i64 v] w fun e w' => e = .returned (.int .i64 (cnt zs v : Int)) ∧ w = w' := by
  have hl := h.len
  have hn := h.le
  have hr := h.reads
  have HL := hide hl
  clear h hl
  go_enter Tryd.func88, Tryd.ntmps88
  go_wp2
  go_loop [5, 7, 10] (fun m _ i => ∃ k : Nat, k ≤ n ∧ i = .int .i64 k ∧ m = .int .i64 (cnt (zs.take k) v : Int)) (fun _ _ i => n - (intOf i).toNat)
  case atStart => exact ⟨0, Nat.zero_le _, rfl, rfl⟩
  case round =>
    obtain ⟨k, hk, rfl, rfl⟩ := hrel
    have hle := cnt_le (zs.take k) v
    have hle2 : cnt (zs.take k) v ≤ 1048576 := by have := List.length_take_le k zs; omega
    clear hle
    by_cases hlt : k < n
    · obtain ⟨ad, u, rfl, _, hu, hc⟩ := hr.at_ hlt
      obtain ⟨x, hx, rfl⟩ := i64_at hu
      have hstep := hide (cnt_at (v := v) hx)
      clear hu hx hr
      by_cases hxv : x < v
      · go_wp2
        go_round
        case rel => exact ⟨k + 1, by omega, by go_num, by rw [unhide hstep, if_pos hxv]; go_num⟩
        case measure => simp [intOf]; omega
      · go_wp2
        go_round
        case rel => exact ⟨k + 1, by omega, by go_num, by rw [unhide hstep, if_neg hxv]; rfl⟩
        case measure => simp [intOf]; omega
    · obtain rfl : n = k := by omega
      have e : zs.take n = zs := List.take_of_length_le (by rw [unhide HL]; exact Nat.le_refl _)
      rw [e] at hle2 ⊢
      clear e
      go_wp2
      go_ret
      exact ⟨rfl, rfl⟩

set_option maxHeartbeats 800000 in
theorem ipat_any (A : Option Addr) (n c B : Nat) (zs : List Int) (b : Bool) (hb : patOK zs = b) (w : World) (h : Arg w B A n c zs) :
    Calls Tryd.prog 85 #[.slice A n c] w (GivesIB w (patR zs) b) := by
  obtain ⟨i0, hi, hz0, hz1, hz2⟩ := info_parts intInfo
  have hl := h.len
  have hr := h.reads
  have hB := h.under
  by_cases h8 : n ≤ 8
  · have h8' : ¬ 8 < n := by omega
    have h8b : decide ((8 : Int) < (n : Int)) = false := by simp; omega
    have H2 := hide (fun v w' (hb' : Below w.heap.size w w') => less_any A n c B zs v w' (h.below hb'))
    have HL := hide hl
    have HB := hide hb
    have HC := hide (fun v => cnt_le zs v)
    clear h hl hb
    go_enter Tryd.func85, Tryd.ntmps85
    go_wp2_with (first
      | (at_make; refine wpList_make_full _ rfl (.tmp 11) (.tmp 11) 30 rfl w.heap.size 3 i0 (.int .i64 0) 1 Tryd.underlying30 hi hz0 hz1 _ _ _ _ n rfl rfl (by first | rfl | omega) (by first | rfl | omega) (by rw [hz2]; omega) (by unfold maxLen; omega) (Nat.le_refl _) ?_; intro w1 hown hg))
    have hb1 := (Below.refl w.heap.size w).grown hg (Nat.le_refl _) (by simp)
    clear hg
    go_loopw [5, 6, 15] (fun _ _ i wr => ∃ (k : Nat) (xs : List Value), k ≤ n ∧ i = .int .i64 k ∧ Below w.heap.size w wr ∧ wr.ownsRow w.heap.size 3 1 (.slice (some ⟨w.heap.size, 0, none⟩) n n) n xs ∧ Hid (xs.take k = (i64s (patL zs)).take k)) (fun _ _ i _ => n - (intOf i).toNat)
    case atStart => exact ⟨0, _, Nat.zero_le _, rfl, hb1, hown, by exact rfl⟩
    case round =>
      obtain ⟨k, xs, hk, rfl, hb, hown', hx⟩ := hrel
      clear hown hb1
      have hlx : xs.length = n := by simpa using hown'.1
      by_cases hlt : k < n
      · obtain ⟨ad, u, rfl, had, hu, hc⟩ := ((hr.more hB).below hb).at_ hlt
        obtain ⟨z, hz, rfl⟩ := i64_at hu
        obtain ⟨old, hold⟩ : ∃ old, wr.cell? ⟨w.heap.size, k, none⟩ = some old := ⟨_, by rw [hown'.cellAt k (by omega)]; exact List.getElem?_eq_getElem (by omega)⟩
        have hfz := hown'.frozenAt k
        have hle : cnt zs z ≤ 8 := by have := unhide HC z; rw [unhide HL] at this; omega
        have hst := hide (take_set_i (unhide hx) (i64_get (patL_at hz)) (by omega))
        have ho2 := (hown'.stored k (.int .i64 (1 + (cnt zs z : Int)))).1
        have hb2 := below_set_i hb hown' k (.int .i64 (1 + (cnt zs z : Int)))
        have H3 := hide (unhide H2 z wr hb)
        clear hx hlx hu hz hown' hb H2
        go_wp2_with fail
        refine (unhide H3).mono ?_
        rintro e w' ⟨rfl, rfl⟩
        clear H3
        go_wp2
        go_roundw
        case rel => exact ⟨k + 1, _, by omega, by go_num, hb2, ho2, hst⟩
        case measure => simp [intOf]; omega
      · obtain rfl : n = k := by omega
        have : xs = i64s (patL zs) := by
          have h := unhide hx
          rwa [List.take_of_length_le (by omega), List.take_of_length_le (by rw [i64_length, patL_length, unhide HL]; exact Nat.le_refl _)] at h
        subst this
        have hI : Ints wr w.heap.size (.slice (some ⟨w.heap.size, 0, none⟩) n n) (patL zs) := Ints.of_own hown'
        have hsm : Small (patL zs) := fun x hx => by
          have := patL_range x hx
          rw [unhide HL] at this
          omega
        have H4 := hide (iisperm_any _ n n _ (patL zs) b ((isP_pat zs).trans (unhide HB)) wr hI.reads (Nat.le_refl _) (by omega) hsm)
        clear hx hlx hown' H2 hsm
        cases b with
        | true =>
          have HR := hide (patR_yes (unhide HB))
          go_wp2_with fail
          refine (unhide H4).mono ?_
          rintro e w2 ⟨rfl, hb2⟩
          have hI2 := hI.below hb2
          rw [← unhide HR] at hI2
          clear H4
          go_wp2
          go_ret2
          exact GivesIB.mk true hI2 (below_after hb hb2)
        | false =>
          have HR := hide (patR_no (unhide HB))
          go_wp2_with fail
          refine (unhide H4).mono ?_
          rintro e w2 ⟨rfl, hb2⟩
          clear H4
          go_wp2
          go_ret2
          exact GivesIB.mk (v := .slice none 0 0) false (by rw [unhide HR]; exact Ints.nil _ _) (below_after hb hb2)
  · have hno := patOK_no8 (l := zs) (by omega)
    obtain rfl : b = false := hb.symm.trans hno
    rw [patR_no hno]
    have hn := h.le
    have h8' : 8 < n := by omega
    have h8b : decide ((8 : Int) < (n : Int)) = true := by simp; omega
    clear hb hno h hl hr
    go_enter Tryd.func85, Tryd.ntmps85
    go_wp2
    go_ret2
    exact GivesIB.mk (v := .slice none 0 0) false (Ints.nil _ _) (Below.refl _ _)
end Go.Proofs.YtplchjeamooliaaDoor


/-
  spec.l7Without, spec.WithoutPlace, spec.LowersOf, by their contracts.
-/

namespace Go.Proofs.YtplchjeamooliaaDoor
set_option maxRecDepth 100000
open Go.RowKit

theorem place_nat' {n : Nat} {x : Int} (h : 1 ≤ x ∧ x ≤ (n : Int)) : ∃ X : Nat, x = ((X + 1 : Nat) : Int) ∧ X < n := ⟨x.toNat - 1, by omega, by omega⟩
/-- A list without the number at index k. -/
def cutAt (p : List Int) (k : Nat) : List Int := p.take k ++ p.drop (k + 1)
theorem cutAt_len {p : List Int} {k : Nat} (h : k < p.length) : (cutAt p k).length + 1 = p.length := by
  unfold cutAt
  rw [List.length_append, List.length_take, List.length_drop]; omega
theorem cutAt_sub (p : List Int) (k : Nat) : (cutAt p k).Sublist p := by
  have h : (p.take k ++ p.drop (k + 1)).Sublist (p.take k ++ p.drop k) := (List.Sublist.refl _).append (by
    rw [← List.drop_drop]; exact List.drop_sublist _ _)
  rwa [List.take_append_drop] at h
theorem cutAt_isP {p : List Int} (hp : isP p = true) (k : Nat) : isP (patL (cutAt p k)) = true := by
  rw [isP_pat]
  have h := isP_true.1 hp
  exact patOK_yes (Nat.le_trans (cutAt_sub p k).length_le (isP_le hp)) (h.2.2.sublist (cutAt_sub p k))

def wplOK (p : List Int) (x : Int) : Bool := isP p && decide (1 ≤ x ∧ x ≤ (p.length : Int))
def wplR (p : List Int) (x : Int) : List Int := if wplOK p x then patL (cutAt p (x.toNat - 1)) else []
theorem wplR_yes {p : List Int} {x : Int} (h : wplOK p x = true) : wplR p x = patL (cutAt p (x.toNat - 1)) := by unfold wplR; rw [if_pos h]
theorem wplR_no {p : List Int} {x : Int} (h : wplOK p x = false) : wplR p x = [] := by unfold wplR; rw [if_neg (by simp [h])]
theorem wplR_le (p : List Int) (x : Int) : (wplR p x).length ≤ 8 := by
  cases h : wplOK p x with
  | false => rw [wplR_no h]; exact Nat.zero_le _
  | true =>
    have hp : isP p = true := by unfold wplOK at h; simp at h; exact h.1
    rw [wplR_yes h]
    exact isP_le (cutAt_isP hp _)
/-- The patterns without one of the first k indices, in order. -/
def lowK (p : List Int) (k : Nat) : List (List Int) := ((List.range k).map fun i => patL (cutAt p i)).foldl putL []
theorem lowK_step (p : List Int) (k : Nat) : lowK p (k + 1) = putL (lowK p k) (patL (cutAt p k)) := by
  unfold lowK
  rw [List.range_succ, List.map_append, List.foldl_append]; rfl
theorem lowK_all {p : List Int} (hp : isP p = true) : ∀ k, ∀ z ∈ lowK p k, isP z = true
  | 0, z, hz => by simp [lowK] at hz
  | k + 1, z, hz => by
    rw [lowK_step, mem_putL] at hz
    rcases hz with hz | rfl
    · exact lowK_all hp k z hz
    · exact cutAt_isP hp k
theorem lowK_len (p : List Int) : ∀ k, (lowK p k).length ≤ k
  | 0 => by simp [lowK]
  | k + 1 => by
    have h1 := lowK_len p k
    have h2 := (putL_len (lowK p k) (patL (cutAt p k))).2
    rw [lowK_step]; omega
def lowR (p : List Int) : List (List Int) := if isP p then lowK p p.length else []
theorem lowR_yes {p : List Int} (h : isP p = true) : lowR p = lowK p p.length := by unfold lowR; rw [if_pos h]
theorem lowR_no {p : List Int} (h : isP p = false) : lowR p = [] := by unfold lowR; rw [if_neg (by simp [h])]
end Go.Proofs.YtplchjeamooliaaDoor


/-
  spec.PatternsIn, by its contract.
-/

namespace Go.Proofs.YtplchjeamooliaaDoor
set_option maxRecDepth 100000
open Go.RowKit

/-- The numbers at those of the first k indices whose bit is set. -/
def subK (p : List Int) (s : Nat) : Nat → List Int
  | 0 => []
  | k + 1 => if s.testBit k then subK p s k ++ [at0 p k] else subK p s k
theorem subK_len (p : List Int) (s : Nat) : ∀ k, (subK p s k).length ≤ k
  | 0 => Nat.le_refl _
  | k + 1 => by
    have := subK_len p s k
    rw [subK]; split <;> simp <;> omega
/-- The patterns of length k of the first s sets of indices, in order. -/
def patK (p : List Int) (k : Int) : Nat → List (List Int)
  | 0 => []
  | s + 1 => if ((subK p s p.length).length : Int) = k then putL (patK p k s) (patL (subK p s p.length)) else patK p k s
def patsOK (p : List Int) (k : Int) : Bool := isP p && decide (0 ≤ k ∧ k ≤ (p.length : Int))
def patsR (p : List Int) (k : Int) : List (List Int) := if patsOK p k then patK p k (2 ^ p.length) else []

theorem bit_test (s k : Nat) (hs : s ≤ 256) : (bits .and .i64 ((s : Int) / 2 ^ k) 1 == 1) = s.testBit k := by
  have h0 : (s : Int) / 2 ^ k = ((s / 2 ^ k : Nat) : Int) := by push_cast; rfl
  have hle : s / 2 ^ k ≤ s := Nat.div_le_self _ _
  have h1 : bits .and .i64 ((s / 2 ^ k : Nat) : Int) 1 = ((s / 2 ^ k % 2 : Nat) : Int) := by
    have := bits_mask .i64 63 (by decide) (fun n h0 h1 => by rw [IntKind.wrap_i64]; omega) 1 (by decide) ((s / 2 ^ k : Nat) : Int) (Int.natCast_nonneg _) (Int.lt_of_le_of_lt (Int.ofNat_le.2 hle) (by omega))
    simpa using this
  rw [h0, h1, Nat.testBit_eq_decide_div_mod_eq]
  by_cases h : s / 2 ^ k % 2 = 1
  · rw [h]; rfl
  · have h2 : s / 2 ^ k % 2 = 0 := by omega
    rw [h2]; rfl
theorem patK_len (p : List Int) (k : Int) : ∀ s, (patK p k s).length ≤ s
  | 0 => Nat.le_refl _
  | s + 1 => by
    have h1 := patK_len p k s
    have h2 := (putL_len (patK p k s) (patL (subK p s p.length))).2
    rw [patK]; split <;> omega
theorem subK_sub (p : List Int) (s : Nat) : ∀ k, k ≤ p.length → (subK p s k).Sublist (p.take k)
  | 0, _ => by simp [subK]
  | k + 1, hk => by
    have ih := subK_sub p s k (by omega)
    rw [take_snoc_i (at0_some (show k < p.length by omega)), subK]
    split
    · exact ih.append (List.Sublist.refl _)
    · exact ih.trans (List.sublist_append_left _ _)
theorem subK_isP {p : List Int} (hp : isP p = true) (s : Nat) : isP (patL (subK p s p.length)) = true := by
  have h := subK_sub p s p.length (Nat.le_refl _)
  rw [List.take_length] at h
  rw [isP_pat]
  exact patOK_yes (Nat.le_trans h.length_le (isP_le hp)) ((isP_true.1 hp).2.2.sublist h)
theorem patK_all {p : List Int} (hp : isP p = true) (k : Int) : ∀ s, ∀ z ∈ patK p k s, isP z = true
  | 0, z, hz => by simp [patK] at hz
  | s + 1, z, hz => by
    rw [patK] at hz
    split at hz
    · rcases mem_putL.1 hz with hz | rfl
      · exact patK_all hp k s z hz
      · exact subK_isP hp s
    · exact patK_all hp k s z hz
theorem patK_yes {p : List Int} {k : Int} {s : Nat} (h : ((subK p s p.length).length : Int) = k) : patK p k (s + 1) = putL (patK p k s) (patL (subK p s p.length)) := by rw [patK, if_pos h]
theorem patK_no {p : List Int} {k : Int} {s : Nat} (h : ¬ ((subK p s p.length).length : Int) = k) : patK p k (s + 1) = patK p k s := by rw [patK, if_neg h]
theorem patsR_yes {p : List Int} {k : Int} (h : patsOK p k = true) : patsR p k = patK p k (2 ^ p.length) := by unfold patsR; rw [if_pos h]
theorem patsR_no {p : List Int} {k : Int} (h : patsOK p k = false) : patsR p k = [] := by unfold patsR; rw [if_neg (by simp [h])]

end Go.Proofs.YtplchjeamooliaaDoor


/-
  PLAIN: the choices of places in order; occurrences are those whose pattern is right, patterns are the patterns of the choices. Nothing here speaks of the program.
-/

namespace Go.Proofs.YtplchjeamooliaaDoor
set_option maxRecDepth 100000

/-- The choices of m more of the places 1 to n that begin with head. -/
def chL (n : Nat) : Nat → List Int → List (List Int)
  | 0, head => [head]
  | m + 1, head => (List.range (n - lastP head)).flatMap fun i => chL n m (head ++ [((lastP head + i + 1 : Nat) : Int)])
/-- .. of the first j of the next places. -/
def chK (n m : Nat) (head : List Int) (j : Nat) : List (List Int) := (List.range j).flatMap fun i => chL n m (head ++ [((lastP head + i + 1 : Nat) : Int)])
theorem chK_all (n m : Nat) (head : List Int) : chK n m head (n - lastP head) = chL n (m + 1) head := rfl
theorem chK_zero (n m : Nat) (head : List Int) : chK n m head 0 = [] := rfl
theorem chK_step (n m : Nat) (head : List Int) (j : Nat) : chK n m head (j + 1) = chK n m head j ++ chL n m (head ++ [((lastP head + j + 1 : Nat) : Int)]) := by
  unfold chK
  rw [List.range_succ, List.flatMap_append, List.flatMap_cons, List.flatMap_nil, List.append_nil]
theorem mem_chL {n : Nat} : ∀ (m : Nat) (head pl : List Int), PlOK n head → (pl ∈ chL n m head ↔ ∃ tl, pl = head ++ tl ∧ tl.length = m ∧ PlOK n pl)
  | 0, head, pl, h => by
    rw [chL, List.mem_singleton]
    constructor
    · rintro rfl
      exact ⟨[], by simp, rfl, h⟩
    · rintro ⟨tl, rfl, h1, _⟩
      rw [List.eq_nil_of_length_eq_zero h1, List.append_nil]
  | m + 1, head, pl, h => by
    have hle := lastP_le h
    rw [chL, List.mem_flatMap]
    constructor
    · rintro ⟨i, hi, hm⟩
      rw [List.mem_range] at hi
      have hh : PlOK n (head ++ [((lastP head + i + 1 : Nat) : Int)]) := PlOK.snoc.2 ⟨h, by omega, by omega⟩
      obtain ⟨tl, rfl, h1, h2⟩ := (mem_chL m _ pl hh).1 hm
      exact ⟨((lastP head + i + 1 : Nat) : Int) :: tl, by rw [List.append_assoc]; rfl, by simp [h1], h2⟩
    · rintro ⟨tl, rfl, h1, h2⟩
      match tl, h1 with
      | x :: tl, h1 =>
        have hx : PlOK n (head ++ [x]) := by
          have := h2.take (head.length + 1)
          rwa [show head ++ x :: tl = head ++ [x] ++ tl by simp, List.take_append_of_le_length (by simp), List.take_of_length_le (by simp)] at this
        obtain ⟨_, hx1, hx2⟩ := PlOK.snoc.1 hx
        have hxe : ((lastP head + (x.toNat - lastP head - 1) + 1 : Nat) : Int) = x := by omega
        refine ⟨x.toNat - lastP head - 1, List.mem_range.2 (by omega), ?_⟩
        rw [hxe, mem_chL m _ _ hx]
        exact ⟨tl, by simp, by simpa using h1, h2⟩
theorem chL_len {n : Nat} : ∀ (m : Nat) (head pl : List Int), pl ∈ chL n m head → pl.length = head.length + m
  | 0, head, pl, h => by rw [chL, List.mem_singleton] at h; subst h; rfl
  | m + 1, head, pl, h => by
    rw [chL, List.mem_flatMap] at h
    obtain ⟨i, _, h⟩ := h
    have := chL_len m _ pl h
    simp at this; omega
theorem chL_pre {n : Nat} : ∀ (m : Nat) (head pl : List Int), pl ∈ chL n m head → ∃ tl, pl = head ++ tl
  | 0, head, pl, h => by rw [chL, List.mem_singleton] at h; subst h; exact ⟨[], by simp⟩
  | m + 1, head, pl, h => by
    rw [chL, List.mem_flatMap] at h
    obtain ⟨i, _, h⟩ := h
    obtain ⟨tl, rfl⟩ := chL_pre m _ pl h
    exact ⟨_ :: tl, by simp; rfl⟩
theorem chL_asc {n : Nat} : ∀ (m : Nat) (head : List Int), Asc (chL n m head)
  | 0, head => by rw [chL]; exact List.pairwise_singleton _ _
  | m + 1, head => by
    rw [chL]
    unfold Asc
    rw [List.pairwise_flatMap]
    constructor
    · intro i _
      exact chL_asc m _
    · refine List.Pairwise.imp ?_ List.pairwise_lt_range
      intro i j hij x hx y hy
      have l1 := chL_len m _ x hx
      have l2 := chL_len m _ y hy
      obtain ⟨t, rfl⟩ := chL_pre m _ x hx
      obtain ⟨s, rfl⟩ := chL_pre m _ y hy
      simp only [List.length_append, List.length_singleton] at l1 l2
      rw [befL_eq (by simp; omega), List.append_assoc, List.append_assoc, lexL_app, List.singleton_append, List.singleton_append, lexL, if_neg (by omega)]
      simp; omega
/-- The choices of k of the places 1 to n. -/
def chR (n k : Nat) : List (List Int) := chL n k []
theorem mem_chR {n k : Nat} {pl : List Int} : pl ∈ chR n k ↔ pl.length = k ∧ PlOK n pl := by
  unfold chR
  rw [mem_chL k [] pl (PlOK.nil n)]
  constructor
  · rintro ⟨tl, rfl, h1, h2⟩; exact ⟨by simpa using h1, h2⟩
  · rintro ⟨h1, h2⟩; exact ⟨pl, rfl, h1, h2⟩
theorem chR_asc (n k : Nat) : Asc (chR n k) := chL_asc k []
/-- The pattern at places. -/
def patA (p pl : List Int) : List Int := patL (nums p pl)
theorem occ_filter {p q : List Int} (hp : isP p = true) (hq : isP q = true) : (chR p.length q.length).filter (fun pl => decide (patA p pl = q)) = occR p q := by
  refine asc_unique ((chR_asc _ _).sublist List.filter_sublist) (occ_asc p q) fun x => ?_
  rw [List.mem_filter, mem_chR, mem_occ, isOcc_iff]
  unfold patA
  simp only [decide_eq_true_eq, hp, hq, true_and]
  constructor
  · rintro ⟨⟨h1, h2⟩, h3⟩; exact ⟨h1, h2, h3⟩
  · rintro ⟨h1, h2, h3⟩; exact ⟨⟨h1, h2⟩, h3⟩

/-! patterns -/
theorem nums_sub {p : List Int} : ∀ {pl : List Int} {m : Nat}, PlOK m pl → m ≤ p.length → (nums p pl).Sublist (p.take m) := by
  intro pl m
  induction m generalizing pl with
  | zero =>
    intro h _
    cases pl with
    | nil => simp [nums]
    | cons a l => have := h.1 a (by simp); omega
  | succ m ih =>
    intro h hm
    by_cases h0 : pl = []
    · subst h0; simp [nums]
    · obtain ⟨l, x, rfl⟩ : ∃ l x, pl = l ++ [x] := ⟨pl.dropLast, pl.getLast h0, (List.dropLast_concat_getLast h0).symm⟩
      obtain ⟨h1, h2, h3⟩ := PlOK.snoc.1 h
      have hsub : ∀ (k : Nat), k ≤ m → (p.take k).Sublist (p.take m) := fun k hk => by
        have := List.take_sublist k (p.take m)
        rwa [List.take_take, Nat.min_eq_left hk] at this
      by_cases hx : x = ((m + 1 : Nat) : Int)
      · subst hx
        have hl : PlOK m l := ⟨fun y hy => ⟨(h1.1 y hy).1, by
          have hh := (List.pairwise_append.1 h.2).2.2 y hy ((m + 1 : Nat) : Int) (by simp)
          omega⟩, h1.2⟩
        rw [nums_snoc, take_snoc_i (at0_some (show m < p.length by omega))]
        exact (ih hl (by omega)).append (by rw [show (((m + 1 : Nat) : Int)).toNat - 1 = m by omega]; exact List.Sublist.refl _)
      · have hl : PlOK m (l ++ [x]) := PlOK.snoc.2 ⟨⟨fun y hy => ⟨(h1.1 y hy).1, by
          have hh := (List.pairwise_append.1 h.2).2.2 y hy x (by simp)
          omega⟩, h1.2⟩, h2, by omega⟩
        have := ih hl (by omega)
        have h5 := List.take_sublist m (p.take (m + 1))
        rw [List.take_take, Nat.min_eq_left (Nat.le_succ m)] at h5
        exact this.trans h5
theorem nums_sub' {p pl : List Int} (h : PlOK p.length pl) : (nums p pl).Sublist p := by
  have := nums_sub (p := p) h (Nat.le_refl _)
  rwa [List.take_length] at this
/-- The patterns of the choices are those of the parts of a length. -/
theorem mem_pats_ch {p x : List Int} {k : Nat} : x ∈ (chR p.length k).map (patA p) ↔ ∃ s, s.Sublist p ∧ s.length = k ∧ x = patL s := by
  rw [List.mem_map]
  constructor
  · rintro ⟨pl, h, rfl⟩
    rw [mem_chR] at h
    exact ⟨nums p pl, nums_sub' h.2, by rw [nums_length]; exact h.1, rfl⟩
  · rintro ⟨s, h1, h2, rfl⟩
    obtain ⟨pl, h3, rfl⟩ := places_of h1
    rw [nums_length] at h2
    exact ⟨pl, mem_chR.2 ⟨h2, h3⟩, rfl⟩
theorem subK_hi (p : List Int) {s t : Nat} : ∀ {k : Nat}, (∀ i, i < k → s.testBit i = t.testBit i) → subK p s k = subK p t k
  | 0, _ => rfl
  | k + 1, h => by
    rw [subK, subK, h k (by omega), subK_hi p (k := k) fun i hi => h i (by omega)]
/-- Every part is one of the parts that the bits tell. -/
theorem sub_bits {p : List Int} : ∀ (k : Nat) (s : List Int), k ≤ p.length → s.Sublist (p.take k) → ∃ t, t < 2 ^ k ∧ subK p t k = s
  | 0, s, _, h => ⟨0, by simp, by rw [List.take_zero] at h; rw [List.sublist_nil.1 h]; rfl⟩
  | k + 1, s, hk, h => by
    rw [take_snoc_i (at0_some (show k < p.length by omega)), List.sublist_append_iff] at h
    obtain ⟨a, b, rfl, h1, h2⟩ := h
    obtain ⟨t, ht, rfl⟩ := sub_bits k a (by omega) h1
    have hpow : 2 ^ (k + 1) = 2 ^ k + 2 ^ k := by rw [Nat.pow_succ]; omega
    cases b with
    | nil =>
      refine ⟨t, by omega, ?_⟩
      rw [subK, Nat.testBit_lt_two_pow ht, List.append_nil]
      rfl
    | cons y b =>
      have hb : y :: b = [at0 p k] := by
        have := h2.length_le
        cases b with
        | nil => have := h2.subset (List.mem_singleton.2 rfl); simp at this; rw [this]
        | cons z b => simp at this
      rw [hb]
      refine ⟨2 ^ k + t, by omega, ?_⟩
      rw [subK, Nat.testBit_two_pow_add_eq, Nat.testBit_lt_two_pow ht]
      rw [subK_hi p (s := 2 ^ k + t) (t := t) fun i hi => Nat.testBit_two_pow_add_gt hi t]
      rfl
theorem mem_patK {p : List Int} {k : Int} : ∀ {s : Nat} {x : List Int}, x ∈ patK p k s ↔ ∃ t, t < s ∧ ((subK p t p.length).length : Int) = k ∧ x = patL (subK p t p.length)
  | 0, x => by simp [patK]
  | s + 1, x => by
    have ih := mem_patK (p := p) (k := k) (s := s) (x := x)
    constructor
    · intro h
      by_cases hk : ((subK p s p.length).length : Int) = k
      · rw [patK_yes hk, mem_putL] at h
        rcases h with h | rfl
        · obtain ⟨t, h1, h2⟩ := ih.1 h; exact ⟨t, by omega, h2⟩
        · exact ⟨s, by omega, hk, rfl⟩
      · rw [patK_no hk] at h
        obtain ⟨t, h1, h2⟩ := ih.1 h; exact ⟨t, by omega, h2⟩
    · rintro ⟨t, h1, h2, h3⟩
      by_cases hk : ((subK p s p.length).length : Int) = k
      · rw [patK_yes hk, mem_putL]
        by_cases hts : t = s
        · subst hts; exact .inr h3
        · exact .inl (ih.2 ⟨t, by omega, h2, h3⟩)
      · rw [patK_no hk]
        have hts : t ≠ s := fun e => hk (by rw [← e]; exact h2)
        exact ih.2 ⟨t, by omega, h2, h3⟩
theorem patK_asc (p : List Int) (k : Int) : ∀ s, Asc (patK p k s)
  | 0 => List.Pairwise.nil
  | s + 1 => by
    rw [patK]
    split
    · exact asc_putL (patK_asc p k s)
    · exact patK_asc p k s
theorem patsOK_nat {p : List Int} {k : Nat} (hp : isP p = true) (hk : k ≤ p.length) : patsOK p (k : Int) = true := by
  unfold patsOK
  rw [hp, Bool.true_and, decide_eq_true_eq]
  omega
theorem mem_patsR {p x : List Int} {k : Nat} (hp : isP p = true) (hk : k ≤ p.length) : x ∈ patsR p (k : Int) ↔ ∃ s, s.Sublist p ∧ s.length = k ∧ x = patL s := by
  rw [patsR_yes (patsOK_nat hp hk), mem_patK]
  constructor
  · rintro ⟨t, _, h2, h3⟩
    have h := subK_sub p t p.length (Nat.le_refl _)
    rw [List.take_length] at h
    exact ⟨_, h, by omega, h3⟩
  · rintro ⟨s, h1, h2, h3⟩
    obtain ⟨t, ht, h4⟩ := sub_bits p.length s (Nat.le_refl _) (by rw [List.take_length]; exact h1)
    exact ⟨t, ht, by rw [h4]; omega, by rw [h4]; exact h3⟩
theorem patsR_asc (p : List Int) (k : Int) : Asc (patsR p k) := by
  unfold patsR
  split
  · exact patK_asc p k _
  · exact List.Pairwise.nil
theorem pats_ordL {p : List Int} {k : Nat} (hp : isP p = true) (hk : k ≤ p.length) : ordL ((chR p.length k).map (patA p)) ((chR p.length k).map (patA p)).length = patsR p (k : Int) := by
  refine asc_unique (ordL_asc _ _) (patsR_asc _ _) fun x => ?_
  rw [ordL_mem, List.take_length, mem_pats_ch, mem_patsR hp hk]
theorem pats_allP {p : List Int} {k : Nat} (hp : isP p = true) : allP ((chR p.length k).map (patA p)) = true := by
  unfold allP
  rw [List.all_eq_true]
  intro x hx
  obtain ⟨s, h1, _, rfl⟩ := mem_pats_ch.1 hx
  rw [isP_pat]
  exact patOK_yes (Nat.le_trans h1.length_le (isP_le hp)) ((isP_true.1 hp).2.2.sublist h1)
theorem pats_ordR {p : List Int} {k : Nat} (hp : isP p = true) (hk : k ≤ p.length) : ordR ((chR p.length k).map (patA p)) = patsR p (k : Int) := by
  rw [ordR_yes (pats_allP hp), pats_ordL hp hk]

/-! leaving one out -/
theorem sub_cut {s p : List Int} (h : s.Sublist p) : s.length + 1 = p.length → ∃ i, i < p.length ∧ s = cutAt p i := by
  induction h with
  | slnil => intro h; simp at h
  | cons a h ih =>
    intro hl
    simp only [List.length_cons, Nat.add_right_cancel_iff] at hl
    exact ⟨0, by simp, by rw [h.eq_of_length hl]; simp [cutAt]⟩
  | cons_cons a h ih =>
    intro hl
    simp only [List.length_cons, Nat.add_right_cancel_iff] at hl
    obtain ⟨i, hi, rfl⟩ := ih hl
    exact ⟨i + 1, by simpa using hi, by simp [cutAt]⟩
theorem lowK_mem {p x : List Int} {k : Nat} : x ∈ lowK p k ↔ ∃ i, i < k ∧ x = patL (cutAt p i) := by
  unfold lowK
  rw [(foldl_put _ [] List.Pairwise.nil).2.1]
  simp only [List.not_mem_nil, false_or, List.mem_map, List.mem_range]
  exact ⟨fun ⟨i, h1, h2⟩ => ⟨i, h1, h2.symm⟩, fun ⟨i, h1, h2⟩ => ⟨i, h1, h2.symm⟩⟩
theorem lowK_asc (p : List Int) (k : Nat) : Asc (lowK p k) := (foldl_put _ [] List.Pairwise.nil).1
theorem pats_low (p : List Int) : patsR p ((p.length : Int) - 1) = lowR p := by
  cases hp : isP p with
  | false => rw [lowR_no hp, patsR_no (by unfold patsOK; rw [hp]; rfl)]
  | true =>
    rw [lowR_yes hp]
    by_cases h0 : p.length = 0
    · rw [h0, patsR_no (by unfold patsOK; rw [hp, h0]; rfl)]; rfl
    · obtain ⟨m, hm⟩ : ∃ m, p.length = m + 1 := ⟨p.length - 1, by omega⟩
      rw [show ((p.length : Int) - 1) = (m : Int) by omega]
      refine asc_unique (patsR_asc _ _) (lowK_asc _ _) fun x => ?_
      rw [mem_patsR hp (by omega), lowK_mem]
      constructor
      · rintro ⟨s, h1, h2, rfl⟩
        obtain ⟨i, hi, rfl⟩ := sub_cut h1 (by omega)
        exact ⟨i, hi, rfl⟩
      · rintro ⟨i, hi, rfl⟩
        exact ⟨_, cutAt_sub p i, by have := cutAt_len hi; omega, rfl⟩
end Go.Proofs.YtplchjeamooliaaDoor


/-
  PLAIN: patterns of patterns; the levels of a class, one number added at the end. Nothing here speaks of the program.
-/

namespace Go.Proofs.YtplchjeamooliaaDoor
set_option maxRecDepth 100000

theorem hasO_occ {p q : List Int} (hp : isP p = true) (hq : isP q = true) : hasO p q = decide (0 < (occR p q).length) := by unfold hasO; rw [occR_yes hp hq]
theorem hasO_iff {p q : List Int} (hp : isP p = true) (hq : isP q = true) : hasO p q = true ↔ ∃ s, s.Sublist p ∧ patL s = q := by
  rw [hasO_occ hp hq, decide_eq_true_eq]
  constructor
  · intro h
    obtain ⟨pl, hpl⟩ := List.exists_mem_of_length_pos h
    have h1 := isOcc_iff.1 (mem_occ.1 hpl)
    exact ⟨nums p pl, nums_sub' h1.2.2.2.1, h1.2.2.2.2⟩
  · rintro ⟨s, hs, rfl⟩
    exact occ_sub hp hs hq
theorem patL_map_sub {s t : List Int} (h : t.Sublist (patL s)) : ∃ t', t'.Sublist s ∧ patL t' = patL t := by
  unfold patL at h
  obtain ⟨t', ht, rfl⟩ := List.sublist_map_iff.1 h
  refine ⟨t', ht, ?_⟩
  refine patL_alike ⟨by simp, fun i j hi hj => ?_⟩
  have e : ∀ k, k < t'.length → at0 (t'.map fun v => 1 + (cnt s v : Int)) k = 1 + (cnt s (at0 t' k) : Int) := fun k hk => at0_of (by rw [List.getElem?_map, at0_some hk]; rfl)
  rw [e i hi, e j hj, cnt_iff (l := s) (ht.subset (at0_mem hi))]
  omega
/-- What occurs in the pattern of a part occurs in the whole. -/
theorem hasO_pat {p s q : List Int} (hp : isP p = true) (hq : isP q = true) (hs : s.Sublist p) (hz : isP (patL s) = true) (h : hasO (patL s) q = true) : hasO p q = true := by
  obtain ⟨t, ht, he⟩ := (hasO_iff hz hq).1 h
  obtain ⟨t', ht', he'⟩ := patL_map_sub ht
  exact (hasO_iff hp hq).2 ⟨t', ht'.trans hs, he'.trans he⟩
theorem hasO_self {p : List Int} (hp : isP p = true) : hasO p p = true := (hasO_iff hp hp).2 ⟨p, List.Sublist.refl _, patL_self hp⟩
theorem hasO_len {p q : List Int} (hp : isP p = true) (hq : isP q = true) (h : hasO p q = true) : q.length ≤ p.length ∧ (q.length = p.length → q = p) := by
  obtain ⟨s, hs, rfl⟩ := (hasO_iff hp hq).1 h
  rw [patL_length]
  refine ⟨hs.length_le, fun e => ?_⟩
  rw [hs.eq_of_length e, patL_self hp]
/-- One number more, at the end. -/
def nxP (z : List Int) (v : Int) : List Int := z.map (up v) ++ [v]
theorem nxP_length (z : List Int) (v : Int) : (nxP z v).length = z.length + 1 := by simp [nxP]
theorem up_lt (v x y : Int) : up v x < up v y ↔ x < y := by unfold up; split <;> split <;> omega
theorem up_ne (v x : Int) : up v x ≠ v := by unfold up; split <;> omega
theorem nx_isP {z : List Int} {v : Int} (hz : isP z = true) (h7 : z.length ≤ 7) (hv : 1 ≤ v ∧ v ≤ (z.length : Int) + 1) : isP (nxP z v) = true := by
  have h := isP_true.1 hz
  refine isP_true.2 ⟨by rw [nxP_length]; omega, fun x hx => ?_, ?_⟩
  · rw [nxP_length]
    unfold nxP at hx
    rcases List.mem_append.1 hx with hx | hx
    · obtain ⟨y, hy, rfl⟩ := List.mem_map.1 hx
      have := h.2.1 y hy
      unfold up
      split <;> omega
    · rw [List.mem_singleton] at hx
      omega
  · unfold nxP
    rw [List.nodup_append]
    refine ⟨?_, by simp, fun a ha b hb e => ?_⟩
    · rw [List.nodup_iff_pairwise_ne, List.pairwise_map]
      exact (List.nodup_iff_pairwise_ne.1 h.2.2).imp fun {a b} hne e => by
        have h1 := up_lt v a b
        have h2 := up_lt v b a
        omega
    · rw [List.mem_singleton] at hb
      subst hb; subst e
      obtain ⟨y, _, hy⟩ := List.mem_map.1 ha
      exact up_ne _ _ hy
theorem nx_pat {z : List Int} (hz : isP z = true) (v : Int) : patL (z.map (up v)) = z := by
  refine (pat_eq_iff hz).2 ⟨by simp, fun i j hi hj => ?_⟩
  rw [List.length_map] at hi hj
  have e : ∀ k, k < z.length → at0 (z.map (up v)) k = up v (at0 z k) := fun k hk => at0_of (by rw [List.getElem?_map, at0_some hk]; rfl)
  rw [e i hi, e j hj, up_lt]
theorem nx_avo {L : List (List Int)} {z : List Int} {v : Int} (hL : ∀ q ∈ L, isP q = true) (hz : isP z = true) (h7 : z.length ≤ 7) (hv : 1 ≤ v ∧ v ≤ (z.length : Int) + 1) (h : avo L z = false) : avo L (nxP z v) = false := by
  have h1 : ¬ ∀ q ∈ L, hasO z q = false := fun e => by rw [avo_yes.2 e] at h; cases h
  have h2 : ∃ q ∈ L, hasO z q = true := by
    apply Classical.byContradiction
    intro hno
    exact h1 fun q hq => by
      cases h3 : hasO z q with
      | false => rfl
      | true => exact (hno ⟨q, hq, h3⟩).elim
  obtain ⟨q, hq, h3⟩ := h2
  have hs : (z.map (up v)).Sublist (nxP z v) := List.sublist_append_left _ _
  refine avo_no hq (hasO_pat (nx_isP hz h7 hv) (hL q hq) hs ?_ ?_)
  · rw [nx_pat hz]; exact hz
  · rw [nx_pat hz]; exact h3
def nxAll (n : Nat) (z : List Int) : List (List Int) := (List.range n).map fun i : Nat => nxP z ((i : Int) + 1)
def lev (L : List (List Int)) : Nat → List (List Int)
  | 0 => [[]]
  | k + 1 => (lev L k).flatMap fun z => (nxAll (k + 1) z).filter (avo L)
theorem perm_nx : ∀ k : Nat, k ≤ 5 → ((permL k).flatMap (nxAll (k + 1))).Perm (permL (k + 1)) := by decide +kernel
theorem permL_mem : ∀ k : Nat, k ≤ 6 → ∀ z ∈ permL k, isP z = true ∧ z.length = k := by decide +kernel
theorem flat_filter {α β : Type} {p : α → Bool} {g : α → List β} : ∀ {l : List α}, (∀ x ∈ l, p x = false → g x = []) → (l.filter p).flatMap g = l.flatMap g
  | [], _ => rfl
  | a :: l, h => by
    have ih := flat_filter (p := p) (g := g) (l := l) fun x hx => h x (by simp [hx])
    rw [List.filter_cons, List.flatMap_cons]
    cases ha : p a with
    | true => rw [if_pos rfl, List.flatMap_cons, ih]
    | false => rw [if_neg (by simp), ih, h a (by simp) ha]; rfl
theorem lev_perm {L : List (List Int)} (hL : ∀ q ∈ L, isP q = true ∧ q.length ≠ 0) : ∀ k : Nat, k ≤ 6 → (lev L k).Perm (clsN L k)
  | 0, _ => by
    have h : avo L [] = true := avo_yes.2 fun q hq => by
      cases h1 : hasO [] q with
      | false => rfl
      | true =>
        have h2 := (hasO_len (by decide) (hL q hq).1 h1).1
        have h3 := (hL q hq).2
        rw [List.length_nil] at h2
        exact absurd (Nat.le_zero.1 h2) h3
    unfold clsN
    rw [show permL 0 = [[]] from rfl, List.filter_cons, if_pos h]
    exact List.Perm.refl _
  | k + 1, hk => by
    have ih := lev_perm hL k (by omega)
    have h1 : (lev L (k + 1)).Perm ((clsN L k).flatMap fun z => (nxAll (k + 1) z).filter (avo L)) := ih.flatMap_right _
    refine h1.trans ?_
    unfold clsN
    rw [flat_filter fun z hz ha => ?_, ← List.filter_flatMap]
    · exact (perm_nx k (by omega)).filter _
    · obtain ⟨h2, h3⟩ := permL_mem k (by omega) z hz
      rw [List.filter_eq_nil_iff]
      intro x hx
      obtain ⟨i, hi, rfl⟩ := List.mem_map.1 hx
      have := List.mem_range.1 hi
      rw [nx_avo (fun q hq => (hL q hq).1) h2 (by omega) (by omega) ha]
      simp
theorem lev_len {L : List (List Int)} (h : basis L = true) {k : Nat} (hk : k ≤ 6) : (lev L k).length = (clsN L k).length := (lev_perm (basis_isP h) k hk).length_eq
theorem lev_rows {L : List (List Int)} (h : basis L = true) {k : Nat} (hk : k ≤ 6) : ∀ z ∈ lev L k, isP z = true ∧ z.length = k := fun z hz => by
  have h1 := (lev_perm (basis_isP h) k hk).subset hz
  unfold clsN at h1
  exact permL_mem k hk z (List.mem_filter.1 h1).1
theorem lev_small {L : List (List Int)} (h : basis L = true) {k : Nat} (hk : k ≤ 6) : (lev L k).length ≤ 720 := by
  rw [lev_len h hk]
  exact Nat.le_trans (List.length_filter_le _ _) (permL_small k hk).1
end Go.Proofs.YtplchjeamooliaaDoor


/-
  WORDS: a list of rows taken out of another one ('out = append(out, all[k])'). Nothing here speaks of a function of the program.
-/

namespace Go.Proofs.YtplchjeamooliaaDoor
set_option maxRecDepth 100000
open Go.RowKit

/-- The list lv holds the rows Z, all made from block C on; the list ov holds U: some of lv's first k rows and rows made before. -/
structure Sib (w : World) (B C : Nat) (lv : Value) (vs : List Value) (Z : List (List Int)) (ov : Value) (us : List Value) (U : List (List Int)) (k : Nat) : Prop where
  all : w.ownsRow B 30 1 lv Z.length vs
  alli : Inner w B vs Z
  out : w.ownsRow B 30 1 ov U.length us
  outi : Inner w B us U
  sub : ∀ x ∈ us, x ∈ vs.take k ∨ Until C x
  since : ∀ x ∈ vs, Since C x
  apart : Away lv ov
section
variable {w w' : World} {B C k : Nat} {lv ov : Value} {vs us : List Value} {Z U : List (List Int)}
theorem Sib.below (h : Sib w B C lv vs Z ov us U k) (hb : Below w.heap.size w w') : Sib w' B C lv vs Z ov us U k :=
  ⟨own_below h.all hb, h.alli.keepI (KeepI.of_below hb), own_below h.out hb, h.outi.keepI (KeepI.of_below hb), h.sub, h.since, h.apart⟩
theorem Sib.skip (h : Sib w B C lv vs Z ov us U k) : Sib w B C lv vs Z ov us U (k + 1) :=
  ⟨h.all, h.alli, h.out, h.outi, fun x hx => by
    rcases h.sub x hx with h1 | h1
    · rw [List.take_add_one]
      exact .inl (List.mem_append_left _ h1)
    · exact .inr h1, h.since, h.apart⟩
theorem Sib.outS (h : Sib w B C lv vs Z ov us U k) : IntsS w B ov U := ⟨us, h.out, h.outi⟩
theorem Sib.allS (h : Sib w B C lv vs Z ov us U k) : IntsS w B lv Z := ⟨vs, h.all, h.alli⟩
theorem Sib.row (h : Sib w B C lv vs Z ov us U k) {A : Option Addr} {n c : Nat} (hv : lv = .slice A n c) {i : Nat} (hi : i < n) :
    ∃ ad A' c' z, A = some ad ∧ Z[i]? = some z ∧ vs[i]? = some (.slice A' z.length c') ∧ w.cell? (ad.add i) = some (.slice A' z.length c') ∧ Ints w B (.slice A' z.length c') z := by
  subst hv
  have h1 := h.all
  have hn : n = Z.length := by
    rcases h1.2 with ⟨hv, hz⟩ | ⟨g, cap, cur, hv, _⟩
    · injection hv with _ h3; omega
    · injection hv
  subst hn
  obtain ⟨ad, u, hA, _, hu, hc⟩ := (Reads.of_own_at h1).at_ hi
  have hz : Z[i]? = some Z[i] := List.getElem?_eq_getElem hi
  have hr := h.alli.row i u _ hu hz
  obtain ⟨A', c', rfl⟩ := hr.slice
  exact ⟨ad, A', c', _, hA, hz, hu, hc, hr⟩
/-- A new list behind rows that stand. -/
theorem Sib.next {W : World} {n : Nat} {A : Option Addr} {c : Nat} (ho : IntsS W B ov U) (hb : Below W.heap.size W w) (h : IntsS w W.heap.size (.slice A n c) Z) (hB : B ≤ W.heap.size) : ∃ vs us, Sib w B W.heap.size (.slice A n c) vs Z ov us U 0 := by
  obtain ⟨us, o1, o2⟩ := ho
  obtain ⟨vs, h1, h2⟩ := h
  refine ⟨vs, us, ?_, h2.low hB, own_below o1 hb, o2.keepI (KeepI.of_below hb), fun x hx => .inr ?_, fun x hx => ?_, ?_⟩
  · refine ⟨h1.1, ?_⟩
    rcases h1.2 with h0 | ⟨g, cap, cur, hv, hb', hr⟩
    · exact .inl h0
    · exact .inr ⟨g, cap, cur, hv, Nat.le_trans hB hb', hr⟩
  · obtain ⟨z, hz⟩ := o2.mem hx
    exact hz.until_
  · obtain ⟨z, hz⟩ := h2.mem hx
    exact hz.since
  · rcases h1.2 with ⟨hv, _⟩ | ⟨g, cap, cur, hv, hb', _⟩
    · exact .inl (by rw [hv]; rfl)
    · refine .inr fun e => ?_
      rw [hv] at e
      have h5 := (o1.lt g (by rw [← e]; rfl)).2
      omega
theorem Sib.start {W : World} {n : Nat} {A : Option Addr} {c : Nat} (ho : W.ownsRow B 30 1 ov 0 []) (hb : Below W.heap.size W w) (h : IntsS w W.heap.size (.slice A n c) Z) (hB : B ≤ W.heap.size) : ∃ vs us, Sib w B W.heap.size (.slice A n c) vs Z ov us [] 0 :=
  Sib.next ⟨[], ho, Inner.nil _ _⟩ hb h hB
theorem mem_take_at {vs : List Value} {k : Nat} {x : Value} (h : x ∈ vs.take k) : ∃ i, i < k ∧ vs[i]? = some x := by
  obtain ⟨i, hi, he⟩ := List.getElem_of_mem h
  rw [List.length_take] at hi
  refine ⟨i, by omega, ?_⟩
  rw [← he, List.getElem_take]
  exact List.getElem?_eq_getElem (by omega)
theorem pair_at {vs : List Value} (h : vs.Pairwise Away) {i k : Nat} {x y : Value} (hik : i < k) (hx : vs[i]? = some x) (hy : vs[k]? = some y) : Away x y := by
  obtain ⟨h1, rfl⟩ := List.getElem?_eq_some_iff.1 hx
  obtain ⟨h2, rfl⟩ := List.getElem?_eq_some_iff.1 hy
  exact (List.pairwise_iff_getElem.1 h) i k h1 h2 hik
end
theorem wpList_sift {ops : Array Oper} {rest : List Oper} {o : Oper} {a : Act} {W : World} {Q : Exit → Act → World → Prop} (hgd : o.guard = none) (sl x : Operand)
    (ho : o.op = .call { callee := .builtin .append, args := #[sl, x], argTypes := #[22, 22] })
    (B C : Nat) (W0 wr : World) (lv v u : Value) (vs us : List Value) (Z U : List (List Int)) (k : Nat) (z : List Int) (hs : a.eval sl = v) (hx : a.eval x = .slice (some ⟨wr.heap.size, 0, none⟩) 1 1) (hW : W = wr.alloc (.cells #[u] 30))
    (h : Sib wr B C lv vs Z v us U k) (hu : vs[k]? = some u) (hz : Z[k]? = some z) (hn : U.length ≤ 1048576) (hb : Below B W0 wr) (hbase : B ≤ W0.heap.size)
    (K : ∀ v' w', Sib w' B C lv vs Z v' (us ++ [u]) (U ++ [z]) (k + 1) → Below B W0 w' → wpList Tryd.prog ops Q rest (a.put o.dst v') w') : wpList Tryd.prog ops Q (o :: rest) a W := by
  obtain ⟨i0, hi, hz0, hz1, hz2⟩ := info_parts rowsInfo
  have hal := (Below.refl wr.heap.size wr).alloc (Nat.le_refl _) (.cells #[u] 30)
  have h0 := h.below hal
  have hBw : B ≤ wr.heap.size := Nat.le_trans hbase hb.size
  have hr := h.alli.row k u z hu hz
  obtain ⟨A1, c1, rfl⟩ := hr.slice
  subst hW
  refine wpList_append_own_at _ hgd sl x 22 ho B 30 i0 (.slice none 0 0) 1 24 Tryd.underlying22 hi hz0 hz1 hz2 rfl (by decide) v _ _ hs h0.out ⟨wr.heap.size, 0, none⟩ 1 1 [.slice A1 z.length c1] hx rfl ?_ ?_ (by unfold maxLen; omega) (by omega) (by simp; omega) ?_
  · intro j y hj
    match j, hj with
    | 0, hj => simp at hj; subst hj; simp [Addr.add]
  · intro y hy
    obtain rfl := List.mem_singleton.1 hy
    rfl
  · intro v' w' h1 h2 _ h4
    have hk := KeepI.of_grown h0.out h2
    refine K v' w' ⟨h0.all.kept h2 h0.apart, h0.alli.keepI hk, by rw [List.length_append]; exact h1, ?_, ?_, h.since, ?_⟩ ?_
    · refine (h0.outi.keepI hk).push ((h0.alli.row k _ z hu hz).keepI hk) fun y hy => ?_
      rcases h.sub y hy with h6 | h6
      · obtain ⟨i, hik, hy2⟩ := mem_take_at h6
        exact pair_at h.alli.away hik hy2 hu
      · exact apart h6 (h.since _ (List.mem_of_getElem? hu)) (Nat.le_refl _)
    · intro y hy
      rcases List.mem_append.1 hy with hy | hy
      · rcases h.sub y hy with h6 | h6
        · rw [List.take_add_one]
          exact .inl (List.mem_append_left _ h6)
        · exact .inr h6
      · obtain rfl := List.mem_singleton.1 hy
        rw [List.take_add_one, hu]
        exact .inl (by simp)
    · rcases h4 with h4 | h4
      · rcases h.apart with ha | ha
        · exact .inl ha
        · exact .inr (by rw [h4]; exact ha)
      · cases hl : lv.ownBlock with
        | none => exact .inl hl
        | some g =>
          refine .inr ?_
          rw [hl, h4]
          intro e
          have h5 := (h.all.lt g hl).2
          have h6 := (h0.all.lt g hl).2
          simp at e
          omega
    · exact (hb.trans (hal.mono hBw)).grown h2 (by simp; omega) (fun g hg => (h.out.lt g hg).1)
end Go.Proofs.YtplchjeamooliaaDoor
