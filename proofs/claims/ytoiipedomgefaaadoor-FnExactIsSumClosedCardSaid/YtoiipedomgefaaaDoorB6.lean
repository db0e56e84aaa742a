/-
  Words and contracts that the laws lean on, bundled: OccR, PatF, ClassU, ClassF, ClassN, ClassC, PermT, PermI, ClassB.
-/
import Derived.Test.YtoiipedomgefaaaDoorB4
import Derived.Test.YtoiipedomgefaaaDoorB3
import Derived.Deep.RegionHeld3
import Derived.Test.YtoiipedomgefaaaDoorB2
import Derived.Test.YtoiipedomgefaaaDoorB5
import Derived.Test.YtoiipedomgefaaaDoorB1
import Derived.Lib.ItoaNum

/-
  spec.OccurrencesOf, spec.CountPattern, spec.HasPattern, spec.IsOccurrence, by their contracts.
-/

namespace Go.Proofs.YtoiipedomgefaaaDoor
set_option maxRecDepth 100000
open Go.RowKit

/-- How often q occurs in p. -/
def numOcc (p q : List Int) : Int := if isP p && isP q then ((occR p q).length : Int) else -1
def hasR (p q : List Int) : Bool := decide (1 ≤ numOcc p q)
theorem numOcc_rng (p q : List Int) : -1 ≤ numOcc p q ∧ numOcc p q ≤ 256 := by
  unfold numOcc
  by_cases h : (isP p && isP q) = true
  · rw [if_pos h]
    have := occ_size p q (by simp at h; exact h.1)
    omega
  · rw [if_neg h]; omega
end Go.Proofs.YtoiipedomgefaaaDoor


/-
  PLAIN: patterns of patterns are patterns; what FnPatterns needs of them.
-/

namespace Go.Proofs.YtoiipedomgefaaaDoor
set_option maxRecDepth 100000

theorem hasR_yes {p q : List Int} (hp : isP p = true) (hq : isP q = true) (h : 0 < (occR p q).length) : hasR p q = true := by
  unfold hasR numOcc
  rw [if_pos (by simp [hp, hq])]
  exact decide_eq_true (by omega)
theorem hasR_iff {p q : List Int} (hp : isP p = true) (hq : isP q = true) : hasR p q = true ↔ ∃ pl, PlOK p.length pl ∧ pl.length = q.length ∧ Alike (nums p pl) q := by
  constructor
  · intro h
    unfold hasR numOcc at h
    rw [if_pos (by simp [hp, hq])] at h
    have := of_decide_eq_true h
    obtain ⟨pl, hpl⟩ := List.exists_mem_of_length_pos (show 0 < (occR p q).length by omega)
    obtain ⟨_, _, h3, h4, h5⟩ := isOcc_iff.1 (mem_occ.1 hpl)
    exact ⟨pl, h4, h3, (pat_eq_iff hq).1 h5⟩
  · rintro ⟨pl, h1, h2, h3⟩
    exact hasR_yes hp hq (List.length_pos_of_mem (a := pl) (mem_occ.2 (isOcc_iff.2 ⟨hp, hq, h2, h1, (pat_eq_iff hq).2 h3⟩)))
theorem hasR_sub {p s : List Int} (hp : isP p = true) (h : s.Sublist p) (hs : isP (patL s) = true) : hasR p (patL s) = true := hasR_yes hp hs (occ_sub hp h hs)
theorem numOcc_yes {p q : List Int} (hp : isP p = true) (hq : isP q = true) : numOcc p q = ((occR p q).length : Int) := by unfold numOcc; rw [if_pos (by simp [hp, hq])]
theorem num_inv {p q : List Int} (hp : isP p = true) (hq : isP q = true) : numOcc (invR p) (invR q) = ((occR p q).length : Int) := by
  rw [invR_yes hp, invR_yes hq]
  have := occ_inv_len hp hq
  unfold invL at this
  rw [numOcc_yes (isP_inv hp) (isP_inv hq), this]
theorem num_rev {p q : List Int} (hp : isP p = true) (hq : isP q = true) : numOcc (revR p) (revR q) = ((occR p q).length : Int) := by
  rw [revR_yes hp, revR_yes hq, numOcc_yes (isP_rev hp) (isP_rev hq), occ_rev_len]
/-- Each pattern is one. -/
theorem patK_mem {p : List Int} {k : Int} : ∀ {s : Nat} {x : List Int}, x ∈ patK p k s → ∃ t, x = patL (subK p t p.length)
  | 0, x, h => by rw [show patK p k 0 = [] from rfl] at h; cases h
  | s + 1, x, h => by
    by_cases hk : ((subK p s p.length).length : Int) = k
    · rw [patK_yes hk, mem_putL] at h
      rcases h with h | h
      · exact patK_mem h
      · exact ⟨s, h⟩
    · rw [patK_no hk] at h
      exact patK_mem h
theorem pats_has {p x : List Int} {k : Int} (h : x ∈ patsR p k) : hasR p x = true := by
  cases hk : patsOK p k with
  | false => rw [patsR_no hk] at h; cases h
  | true =>
    have hp : isP p = true := by unfold patsOK at hk; rw [Bool.and_eq_true] at hk; exact hk.1
    rw [patsR_yes hk] at h
    obtain ⟨t, rfl⟩ := patK_mem h
    refine hasR_sub hp ?_ (subK_isP hp t)
    have := subK_sub p t p.length (Nat.le_refl _)
    rwa [List.take_length] at this
theorem wpl_has {p : List Int} {x : Int} (h : wplOK p x = true) : hasR p (wplR p x) = true := by
  have hp : isP p = true := by unfold wplOK at h; rw [Bool.and_eq_true] at h; exact h.1
  rw [wplR_yes h]
  exact hasR_sub hp (cutAt_sub p _) (cutAt_isP hp _)
theorem wpl_low {p : List Int} {x : Int} (h : wplOK p x = true) : wplR p x ∈ lowR p := by
  have hp : isP p = true := by unfold wplOK at h; rw [Bool.and_eq_true] at h; exact h.1
  have hx : 1 ≤ x ∧ x ≤ (p.length : Int) := by unfold wplOK at h; rw [Bool.and_eq_true] at h; exact of_decide_eq_true h.2
  rw [wplR_yes h, lowR_yes hp]
  unfold lowK
  rw [(foldl_put _ [] List.Pairwise.nil).2.1]
  refine .inr (List.mem_map.2 ⟨x.toNat - 1, List.mem_range.2 (by omega), rfl⟩)
/-! how much it is -/
theorem tot_room (m : Nat) : ∀ l : List (List Int), (∀ z ∈ l, z.length ≤ m) → tot l ≤ m * l.length
  | [], _ => by simp [tot]
  | z :: l, h => by
    have h1 := h z (by simp)
    have h2 := tot_room m l fun y hy => h y (by simp [hy])
    simp only [tot, List.length_cons, List.map_cons, List.sum_cons, Nat.mul_add, Nat.mul_one] at h2 ⊢
    omega
theorem occ_room (p q : List Int) : (occR p q).length ≤ 256 ∧ tot (occR p q) ≤ 2048 := by
  have ht := tot_room 8 (occR p q) fun z hz => by
    obtain ⟨_, h2, h3, _⟩ := isOcc_iff.1 (mem_occ.1 hz)
    have := isP_le h2
    omega
  have hnum := numOcc_rng p q
  have h8 : (occR p q).length ≤ 256 := by
    cases hpp : isP p with
    | false => rw [occR_no (.inl hpp)]; simp
    | true =>
      cases hqq : isP q with
      | false => rw [occR_no (.inr hqq)]; simp
      | true => rw [numOcc_yes hpp hqq] at hnum; omega
  exact ⟨h8, by omega⟩
theorem pats_all {p z : List Int} {k : Int} (h : z ∈ patsR p k) : isP z = true := by
  cases hk : patsOK p k with
  | false => rw [patsR_no hk] at h; cases h
  | true =>
    have hp : isP p = true := by unfold patsOK at hk; rw [Bool.and_eq_true] at hk; exact hk.1
    rw [patsR_yes hk] at h
    exact patK_all hp k _ z h
theorem pats_size (p : List Int) (k : Int) : (patsR p k).length ≤ 256 ∧ tot (patsR p k) ≤ 2048 := by
  have ht := tot_room 8 (patsR p k) fun z hz => isP_le (pats_all hz)
  have h8 : (patsR p k).length ≤ 256 := by
    cases hk : patsOK p k with
    | false => rw [patsR_no hk]; simp
    | true =>
      have hp : isP p = true := by unfold patsOK at hk; rw [Bool.and_eq_true] at hk; exact hk.1
      rw [patsR_yes hk]
      have h1 := patK_len p k (2 ^ p.length)
      have h2 : 2 ^ p.length ≤ 2 ^ 8 := Nat.pow_le_pow_right (by omega) (isP_le hp)
      omega
  exact ⟨h8, by omega⟩
theorem low_all {p z : List Int} (h : z ∈ lowR p) : isP z = true := by
  cases hp : isP p with
  | false => rw [lowR_no hp] at h; cases h
  | true => rw [lowR_yes hp] at h; exact lowK_all hp _ z h
theorem low_size (p : List Int) : (lowR p).length ≤ 8 ∧ tot (lowR p) ≤ 64 := by
  have ht := tot_room 8 (lowR p) fun z hz => isP_le (low_all hz)
  have h8 : (lowR p).length ≤ 8 := by
    cases hp : isP p with
    | false => rw [lowR_no hp]; simp
    | true =>
      rw [lowR_yes hp]
      have h1 := lowK_len p p.length
      have := isP_le hp
      omega
  exact ⟨h8, by omega⟩
theorem occ_is {p q pl : List Int} (h : pl ∈ occR p q) : isOcc p q pl = true := mem_occ.1 h
end Go.Proofs.YtoiipedomgefaaaDoor


/-
  spec.l12In and spec.BasisUpTo, by their contracts.
-/

namespace Go.Proofs.YtoiipedomgefaaaDoor
set_option maxRecDepth 100000
open Go.RowKit

/-- What BasisUpTo keeps. -/
def okL (L : List (List Int)) (q : List Int) : Bool := decide (q.length = 0) || decide (q ∈ L)
def fineU (L : List (List Int)) (p : List Int) : Bool := !decide (p ∈ L) && (lowR p).all (okL L)
def buK (L : List (List Int)) : Nat → List (List Int)
  | 0 => []
  | k + 1 => buK L k ++ (permL (k + 1)).filter (fineU L)
def buR (L : List (List Int)) (m : Int) : List (List Int) := if allP L = true ∧ 0 ≤ m ∧ m ≤ 6 then buK L m.toNat else []
theorem buR_no {L : List (List Int)} {m : Int} (h : ¬ (allP L = true ∧ 0 ≤ m ∧ m ≤ 6)) : buR L m = [] := by unfold buR; rw [if_neg h]
theorem buR_yes {L : List (List Int)} {k : Nat} (h : allP L = true) (hk : k ≤ 6) : buR L (k : Int) = buK L k := by unfold buR; rw [if_pos ⟨h, by omega, by omega⟩, Int.toNat_natCast]
theorem buK_le (L : List (List Int)) : ∀ k, k ≤ 6 → (buK L k).length ≤ 720 * k
  | 0, _ => Nat.le_refl _
  | k + 1, h => by
    have ih := buK_le L k (by omega)
    have h1 := (permL_small (k + 1) h).1
    have h2 := List.length_filter_le (fineU L) (permL (k + 1))
    rw [buK, List.length_append]
    omega
theorem okL_take {L low : List (List Int)} {i : Nat} {q : List Int} (h : low[i]? = some q) : (low.take (i + 1)).all (okL L) = ((low.take i).all (okL L) && okL L q) := by rw [List.take_add_one, h]; simp
theorem okL_false {L low : List (List Int)} {i : Nat} (h : (low.take i).all (okL L) = false) : low.all (okL L) = false := by
  rw [List.all_eq_false] at h ⊢
  obtain ⟨x, hx, he⟩ := h
  exact ⟨x, List.mem_of_mem_take hx, he⟩
end Go.Proofs.YtoiipedomgefaaaDoor


/-
  PLAIN: a class has every pattern of its permutations; its basis is found again. Nothing here speaks of the program.
-/

namespace Go.Proofs.YtoiipedomgefaaaDoor
set_option maxRecDepth 100000

theorem short_cut {s p : List Int} (h : s.Sublist p) : s.length < p.length → ∃ i, i < p.length ∧ s.Sublist (cutAt p i) := by
  induction h with
  | slnil => intro h; simp at h
  | cons a h ih => intro _; exact ⟨0, by simp, by simpa [cutAt] using h⟩
  | cons_cons a h ih =>
    intro hl
    simp only [List.length_cons, Nat.add_lt_add_iff_right] at hl
    obtain ⟨i, hi, hs⟩ := ih hl
    exact ⟨i + 1, by simpa using hi, by simpa [cutAt] using hs⟩
theorem cut_sub (p : List Int) (i : Nat) : (cutAt p i).Sublist p := by
  unfold cutAt
  have h := List.take_append_drop i p
  conv => rhs; rw [← h]
  exact (List.Sublist.refl _).append (List.drop_sublist_drop_left p (Nat.le_succ i))
theorem low_mem {p q : List Int} (hp : isP p = true) : q ∈ lowR p ↔ ∃ i, i < p.length ∧ q = patL (cutAt p i) := by rw [lowR_yes hp]; exact lowK_mem
theorem low_len {p q : List Int} (hp : isP p = true) (h : q ∈ lowR p) : q.length + 1 = p.length := by
  obtain ⟨i, hi, rfl⟩ := (low_mem hp).1 h
  rw [patL_length]
  exact cutAt_len hi
/-- What occurs in a pattern of one number less occurs in the whole; what is shorter and occurs, occurs in one of those. -/
theorem has_low {p q b : List Int} (hp : isP p = true) (hb : isP b = true) (hq : q ∈ lowR p) (h : hasO q b = true) : hasO p b = true := by
  have hqp := low_all hq
  obtain ⟨i, hi, rfl⟩ := (low_mem hp).1 hq
  exact hasO_pat hp hb (cut_sub p i) hqp h
theorem low_has {p b : List Int} (hp : isP p = true) (hb : isP b = true) (h : hasO p b = true) (hne : b ≠ p) : ∃ q ∈ lowR p, hasO q b = true := by
  obtain ⟨s, hs, hsb⟩ := (hasO_iff hp hb).1 h
  have hl : s.length < p.length := by
    apply Nat.lt_of_le_of_ne hs.length_le
    intro e
    apply hne
    rw [← hsb, hs.eq_of_length e, patL_self hp]
  obtain ⟨i, hi, hsi⟩ := short_cut hs hl
  have hq : patL (cutAt p i) ∈ lowR p := (low_mem hp).2 ⟨i, hi, rfl⟩
  refine ⟨_, hq, (hasO_iff (low_all hq) hb).2 ⟨s.map fun v => 1 + (cnt (cutAt p i) v : Int), ?_, ?_⟩⟩
  · unfold patL
    exact hsi.map _
  · rw [← hsb]
    refine patL_alike ⟨by simp, fun a c ha hc => ?_⟩
    rw [List.length_map] at ha hc
    have e : ∀ k, k < s.length → at0 (s.map fun v => 1 + (cnt (cutAt p i) v : Int)) k = 1 + (cnt (cutAt p i) (at0 s k) : Int) := fun k hk => at0_of (by rw [List.getElem?_map, at0_some hk]; rfl)
    rw [e a ha, e c hc, cnt_iff (l := cutAt p i) (hsi.subset (at0_mem ha))]
    omega
theorem avo_not {L : List (List Int)} {p : List Int} (h : avo L p = false) : ∃ b ∈ L, hasO p b = true := by
  apply Classical.byContradiction
  intro hno
  have : avo L p = true := avo_yes.2 fun q hq => by
    cases h3 : hasO p q with
    | false => rfl
    | true => exact (hno ⟨q, hq, h3⟩).elim
  rw [h] at this; cases this
theorem avo_low {L : List (List Int)} {p q : List Int} (hL : ∀ b ∈ L, isP b = true) (hp : isP p = true) (ha : avo L p = true) (hq : q ∈ lowR p) : avo L q = true := by
  cases h : avo L q with
  | true => rfl
  | false =>
    obtain ⟨b, hb, hh⟩ := avo_not h
    have := has_low hp (hL b hb) hq hh
    rw [avo_yes.1 ha b hb] at this; cases this
/-- A class has every pattern of its permutations. -/
theorem inC_low {L : List (List Int)} {p q : List Int} (h : inC L p = true) (hq : q ∈ lowR p) : inC L q = true := by
  unfold inC at h ⊢
  simp only [Bool.and_eq_true] at h ⊢
  exact ⟨⟨h.1.1, low_all hq⟩, avo_low (fun b hb => (basis_isP h.1.1 b hb).1) h.1.2 h.2 hq⟩
theorem basis_at {L : List (List Int)} (h : basis L = true) {k : Nat} (hk : k < L.length) : basAt L k = true := by
  unfold basis at h
  simp only [Bool.and_eq_true] at h
  exact List.all_eq_true.1 h.1 k (List.mem_range.2 hk)
theorem basis_step {L : List (List Int)} (h : basis L = true) {k : Nat} (hk : k + 1 < L.length) : befL L[k] L[k + 1] = true := by
  have h1 := basis_at h hk
  rw [basAt_at (List.getElem?_eq_getElem hk)] at h1
  simp only [Bool.and_eq_true, Bool.or_eq_true, decide_eq_true_eq] at h1
  rcases h1.1.2 with h2 | h2
  · omega
  · rwa [Nat.add_sub_cancel, getD_row (List.getElem?_eq_getElem (show k < L.length by omega))] at h2
theorem basis_asc {L : List (List Int)} (h : basis L = true) : Asc L := by
  unfold Asc
  rw [List.pairwise_iff_getElem]
  intro i j hi hj hij
  induction j with
  | zero => omega
  | succ j ih =>
    by_cases e : i = j
    · subst e; exact basis_step h hj
    · exact befL_trans (ih (by omega) (by omega)) (basis_step h hj)
theorem befL_len {x y : List Int} (h : befL x y = true) : x.length ≤ y.length := by
  by_cases e : x.length = y.length
  · omega
  · rw [befL_ne e] at h
    have := of_decide_eq_true h
    omega
theorem basis_apart {L : List (List Int)} (h : basis L = true) {b p : List Int} (hb : b ∈ L) (hp : p ∈ L) (hh : hasO p b = true) : b = p := by
  obtain ⟨i, hi, rfl⟩ := List.getElem_of_mem hb
  obtain ⟨k, hk, rfl⟩ := List.getElem_of_mem hp
  have hip := (basis_isP h _ (List.getElem_mem hi)).1
  have hkp := (basis_isP h _ (List.getElem_mem hk)).1
  have hl := hasO_len hkp hip hh
  rcases Nat.lt_trichotomy i k with hlt | heq | hgt
  · have h1 := basis_at h hk
    rw [basAt_at (List.getElem?_eq_getElem hk)] at h1
    simp only [Bool.and_eq_true] at h1
    have h2 : L[i] ∈ L.take k := List.mem_of_getElem? (i := i) (by rw [List.getElem?_take_of_lt hlt]; exact List.getElem?_eq_getElem hi)
    rw [avo_yes.1 h1.2 _ h2] at hh; cases hh
  · subst heq; rfl
  · have h1 := basis_asc h
    unfold Asc at h1
    have h2 := befL_len (List.pairwise_iff_getElem.1 h1 k i hk hi hgt)
    exact hl.2 (by omega)
/-- The permutations of the class up to a length. -/
def allC (L : List (List Int)) (n : Nat) : List (List Int) := (List.range (n + 1)).flatMap (clsN L)
def dn1 (f x : Int) : Int := if f < x then x - 1 else x
theorem perm_all : ∀ (n : Nat) (p : List Int), p.length = n → isP p = true → p ∈ permL n
  | 0, p, hl, _ => by
    obtain rfl := List.eq_nil_of_length_eq_zero hl
    simp [permL]
  | n + 1, [], hl, _ => by simp at hl
  | n + 1, f :: t, hl, hp => by
    have h := isP_true.1 hp
    rw [List.length_cons, Nat.add_right_cancel_iff] at hl
    have hnd := List.nodup_cons.1 h.2.2
    have hne : ∀ x ∈ t, x ≠ f := fun x hx e => hnd.1 (by rw [← e]; exact hx)
    have hr : ∀ x ∈ f :: t, 1 ≤ x ∧ x ≤ (n : Int) + 1 := fun x hx => by have := h.2.1 x hx; rw [List.length_cons, hl] at this; omega
    have hf := hr f (by simp)
    have hup : ∀ x ∈ t, up f (dn1 f x) = x := fun x hx => by have := hne x hx; unfold up dn1; split <;> split <;> omega
    have hrp : isP (t.map (dn1 f)) = true := by
      refine isP_true.2 ⟨by rw [List.length_map]; have := h.1; rw [List.length_cons] at this; omega, fun x hx => ?_, ?_⟩
      · obtain ⟨y, hy, rfl⟩ := List.mem_map.1 hx
        have h1 := hr y (by simp [hy])
        have h2 := hne y hy
        rw [List.length_map, hl]
        unfold dn1
        split <;> omega
      · rw [List.nodup_iff_pairwise_ne, List.pairwise_map]
        refine List.Pairwise.imp_of_mem (fun {a b} ha hb hab e => ?_) (List.nodup_iff_pairwise_ne.1 hnd.2)
        have h1 := hup a ha
        rw [e, hup b hb] at h1
        exact hab h1.symm
    have ih := perm_all n (t.map (dn1 f)) (by rw [List.length_map]; exact hl) hrp
    rw [permL]
    refine List.mem_flatMap.2 ⟨f, mem_upTo.2 ⟨hf.1, by have := hf.2; omega⟩, List.mem_map.2 ⟨_, ih, ?_⟩⟩
    unfold behind
    rw [List.map_map]
    congr 1
    conv => rhs; rw [← List.map_id t]
    exact List.map_congr_left fun x hx => hup x hx
theorem mem_clsN {L : List (List Int)} {k : Nat} (hk : k ≤ 6) {x : List Int} : x ∈ clsN L k ↔ isP x = true ∧ x.length = k ∧ avo L x = true := by
  unfold clsN
  rw [List.mem_filter]
  constructor
  · rintro ⟨h1, h2⟩
    have := permL_mem k hk x h1
    exact ⟨this.1, this.2, h2⟩
  · rintro ⟨h1, h2, h3⟩
    exact ⟨perm_all k x h2 h1, h3⟩
theorem mem_all {L : List (List Int)} {n : Nat} (hn : n ≤ 6) {x : List Int} : x ∈ allC L n ↔ isP x = true ∧ x.length ≤ n ∧ avo L x = true := by
  unfold allC
  rw [List.mem_flatMap]
  constructor
  · rintro ⟨k, hk, hx⟩
    have hk := List.mem_range.1 hk
    have := (mem_clsN (by omega)).1 hx
    exact ⟨this.1, by omega, this.2.2⟩
  · rintro ⟨h1, h2, h3⟩
    exact ⟨x.length, List.mem_range.2 (by omega), (mem_clsN (by omega)).2 ⟨h1, rfl, h3⟩⟩
theorem allC_P {L : List (List Int)} {n : Nat} (hn : n ≤ 6) : allP (allC L n) = true := allP_yes fun _ hz => ((mem_all hn).1 hz).1
/-- The basis is told by its class. -/
theorem fine_all {L : List (List Int)} (h : basis L = true) {n : Nat} (hn : n ≤ 6) {p : List Int} (hp : isP p = true) (hpn : p.length ≤ n) : fineU (allC L n) p = decide (p ∈ L) := by
  have hL := fun b hb => (basis_isP h b hb).1
  rw [Bool.eq_iff_iff]
  unfold fineU
  simp only [Bool.and_eq_true, Bool.not_eq_true', decide_eq_false_iff_not, decide_eq_true_eq, List.all_eq_true]
  constructor
  · rintro ⟨h1, h2⟩
    have ha : avo L p = false := by
      cases ha : avo L p with
      | false => rfl
      | true => exact (h1 ((mem_all hn).2 ⟨hp, hpn, ha⟩)).elim
    obtain ⟨b, hb, hh⟩ := avo_not ha
    by_cases e : b = p
    · rw [← e]; exact hb
    · obtain ⟨q, hq, hqb⟩ := low_has hp (hL b hb) hh e
      have h3 := h2 q hq
      unfold okL at h3
      simp only [Bool.or_eq_true, decide_eq_true_eq] at h3
      rcases h3 with h3 | h3
      · have h4 := (hasO_len (low_all hq) (hL b hb) hqb).1
        exact absurd (Nat.le_zero.1 (by omega)) (basis_isP h b hb).2
      · rw [avo_yes.1 ((mem_all hn).1 h3).2.2 b hb] at hqb
        cases hqb
  · intro hpL
    refine ⟨fun hall => ?_, fun q hq => ?_⟩
    · have h1 := ((mem_all hn).1 hall).2.2
      have h2 := hasO_self hp
      rw [avo_yes.1 h1 p hpL] at h2; cases h2
    · unfold okL
      simp only [Bool.or_eq_true, decide_eq_true_eq]
      right
      refine (mem_all hn).2 ⟨low_all hq, by have := low_len hp hq; omega, avo_yes.2 fun b hb => ?_⟩
      cases hh : hasO q b with
      | false => rfl
      | true =>
        have h1 := basis_apart h hb hpL (has_low hp (hL b hb) hq hh)
        have h2 := (hasO_len (low_all hq) (hL b hb) hh).1
        have h3 := low_len hp hq
        rw [h1] at h2
        omega
def chainB : List (List Int) → Bool
  | a :: b :: r => befL a b && chainB (b :: r)
  | _ => true
theorem chain_head : ∀ {l : List (List Int)} {a : List Int}, chainB (a :: l) = true → ∀ b ∈ l, befL a b = true
  | [], _, _, _, hb => by cases hb
  | c :: l, a, h, b, hb => by
    rw [chainB, Bool.and_eq_true] at h
    rcases List.mem_cons.1 hb with rfl | hb
    · exact h.1
    · exact befL_trans h.1 (chain_head h.2 b hb)
theorem chain_asc : ∀ {l : List (List Int)}, chainB l = true → Asc l
  | [], _ => List.Pairwise.nil
  | [a], _ => List.pairwise_singleton _ _
  | a :: b :: l, h => by
    have h1 := h
    rw [chainB, Bool.and_eq_true] at h1
    exact List.Pairwise.cons (fun x hx => chain_head h x hx) (chain_asc h1.2)
theorem permL_chain : ∀ k : Nat, k ≤ 6 → chainB (permL k) = true := by decide +kernel
theorem permL_asc (k : Nat) (hk : k ≤ 6) : (permL k).Pairwise fun a b => befL a b = true := chain_asc (permL_chain k hk)
theorem buK_mem {L : List (List Int)} {x : List Int} : ∀ {k : Nat}, k ≤ 6 → (x ∈ buK L k ↔ isP x = true ∧ 1 ≤ x.length ∧ x.length ≤ k ∧ fineU L x = true)
  | 0, _ => by
    rw [buK]
    constructor
    · intro h; cases h
    · rintro ⟨_, h1, h2, _⟩; omega
  | k + 1, hk => by
    rw [buK, List.mem_append, buK_mem (by omega), List.mem_filter]
    constructor
    · rintro (⟨h1, h2, h3, h4⟩ | ⟨h1, h2⟩)
      · exact ⟨h1, h2, by omega, h4⟩
      · have := permL_mem (k + 1) hk x h1
        exact ⟨this.1, by omega, by omega, h2⟩
    · rintro ⟨h1, h2, h3, h4⟩
      by_cases e : x.length ≤ k
      · exact .inl ⟨h1, h2, e, h4⟩
      · exact .inr ⟨perm_all (k + 1) x (by omega) h1, h4⟩
theorem buK_asc (L : List (List Int)) : ∀ k : Nat, k ≤ 6 → Asc (buK L k)
  | 0, _ => List.Pairwise.nil
  | k + 1, hk => by
    unfold Asc
    rw [buK, List.pairwise_append]
    refine ⟨buK_asc L k (by omega), (permL_asc (k + 1) hk).filter _, fun a ha b hb => ?_⟩
    have h1 := ((buK_mem (by omega)).1 ha).2.2.1
    have h2 := (permL_mem (k + 1) hk b (List.mem_filter.1 hb).1).2
    rw [befL_ne (by omega)]
    exact decide_eq_true (by omega)
/-- The basis is found again. -/
theorem basis_again {L : List (List Int)} (h : basis L = true) {n : Nat} (hn : n ≤ 6) : buR (allC L n) (n : Int) = L.filter fun z => decide (z.length ≤ n) := by
  rw [buR_yes (allC_P hn) hn]
  refine asc_unique (buK_asc _ n hn) ?_ fun x => ?_
  · have h1 := basis_asc h
    unfold Asc at h1 ⊢
    exact h1.filter _
  · rw [buK_mem hn, List.mem_filter, decide_eq_true_eq]
    constructor
    · rintro ⟨h1, _, h3, h4⟩
      rw [fine_all h hn h1 h3] at h4
      exact ⟨of_decide_eq_true h4, h3⟩
    · rintro ⟨h1, h2⟩
      have h3 := basis_isP h x h1
      exact ⟨h3.1, by have := h3.2; omega, h2, by rw [fine_all h hn h3.1 h2]; exact decide_eq_true h1⟩
end Go.Proofs.YtoiipedomgefaaaDoor


/-
  spec.l12Next, by its contract.
-/

namespace Go.Proofs.YtoiipedomgefaaaDoor
set_option maxRecDepth 100000
open Go.RowKit

theorem keep_low2 {B : Nat} {wr w : World} {p q : Addr} {u v : Value} (h1 : wr.cell? p = some u) (h2 : wr.cell? q = some v) (l1 : p.block < B) (l2 : q.block < B) (hb : Below B wr w) : w.cell? p = some u ∧ w.cell? q = some v ∧ Below B wr w := ⟨(hb.cell l1).trans h1, (hb.cell l2).trans h2, hb⟩
/-- The next level, its first k rows whole. -/
def nxtK (L : List (List Int)) (zl : List (List Int)) (K k : Nat) : List (List Int) := (zl.take k).flatMap fun z => (nxAll K z).filter (avo L)
theorem nxtK_zero (L zl : List (List Int)) (K : Nat) : nxtK L zl K 0 = [] := by simp [nxtK]
theorem nxtK_step {L zl : List (List Int)} {K k : Nat} {z : List Int} (h : zl[k]? = some z) : nxtK L zl K (k + 1) = nxtK L zl K k ++ sift (avo L) (nxAll K z) K := by
  unfold nxtK
  rw [List.take_add_one, h, List.flatMap_append]
  unfold sift
  rw [show (nxAll K z).take K = nxAll K z from List.take_of_length_le (by simp [nxAll])]
  simp
theorem nxtK_le (L zl : List (List Int)) (K : Nat) : ∀ k, (nxtK L zl K k).length ≤ k * K
  | 0 => by rw [nxtK_zero]; simp
  | k + 1 => by
    have ih := nxtK_le L zl K k
    by_cases hk : k < zl.length
    · rw [nxtK_step (List.getElem?_eq_getElem hk), List.length_append, Nat.add_mul]
      have := sift_le (avo L) (nxAll K zl[k]) K
      omega
    · have e : nxtK L zl K (k + 1) = nxtK L zl K k := by unfold nxtK; rw [List.take_of_length_le (by omega), List.take_of_length_le (by omega)]
      rw [e]
      exact Nat.le_trans ih (Nat.mul_le_mul_right _ (by omega))
theorem nxAll_at {K m : Nat} {z : List Int} (h : m < K) : (nxAll K z)[m]? = some (nxP z ((m : Int) + 1)) := by unfold nxAll; rw [List.getElem?_map, List.getElem?_range h]; rfl
theorem map_up_step {z : List Int} {v x : Int} {i : Nat} (h : z[i]? = some x) : (z.map (up v)).take i ++ [up v x] = (z.map (up v)).take (i + 1) := (take_snoc_i (by rw [List.getElem?_map, h]; rfl)).symm
end Go.Proofs.YtoiipedomgefaaaDoor


/-
  spec.l12Class and spec.ClassCounts, by their contracts.
-/

namespace Go.Proofs.YtoiipedomgefaaaDoor
set_option maxRecDepth 100000
open Go.RowKit

theorem listsInfo : (Tryd.prog.info? 22).map (fun i => (i.zero, i.size, i.bytes)) = some (some (.slice none 0 0), 1, 24) := by kernel_rfl
/-- A change of one older block. -/
theorem IntsS.off {w w' : World} {B cb : Nat} {v : Value} {zss : List (List Int)} (h : IntsS w B v zss) (hg : w.grownBy w' (some cb)) (hc : cb < B) : IntsS w' B v zss := by
  obtain ⟨vs, h1, h2⟩ := h
  refine ⟨vs, h1.kept hg ?_, ⟨h2.len, fun i u z hu hz => ?_, h2.away⟩⟩
  · cases hv : v.ownBlock with
    | none => exact .inl rfl
    | some g => exact .inr fun e => by have := (h1.lt g hv).1; injection e with e; omega
  · have hr := h2.row i u z hu hz
    refine Row.kept hr hg ?_
    cases hv : u.ownBlock with
    | none => exact .inl rfl
    | some g => exact .inr fun e => by have := (Row.lt hr g hv).1; injection e with e; omega
/-- Rows of two types lie apart. -/
theorem own_types {w : World} {B B' n m : Nat} {e e' : TypeId} {u v : Value} {xs ys : List Value} (h : w.ownsRow B e 1 v n xs) (k : w.ownsRow B' e' 1 u m ys) (hne : e ≠ e') : v.ownBlock = none ∨ v.ownBlock ≠ u.ownBlock := by
  rcases h.2 with ⟨rfl, _⟩ | ⟨g, cap, cur, rfl, _, hg, _⟩
  · exact .inl rfl
  · refine .inr fun he => ?_
    rcases k.2 with ⟨rfl, _⟩ | ⟨g', cap', cur', rfl, _, hg', _⟩
    · simp [Value.ownBlock] at he
    · simp [Value.ownBlock] at he
      subst he
      rw [hg] at hg'
      injection hg' with hg'
      injection hg' with _ h2
      exact hne h2
theorem nxtK_lev (L : List (List Int)) (k : Nat) : nxtK L (lev L k) (k + 1) (lev L k).length = lev L (k + 1) := by unfold nxtK; rw [List.take_length]; rfl
/-- A list of lists of rows: how long each is. -/
def Heads (w : World) (B : Nat) (v : Value) (n : Nat) (f : Nat → Nat) : Prop := ∃ us : List Value, w.ownsRow B 22 1 v n us ∧ ∀ k, k < n → ∃ A c, us[k]? = some (.slice A (f k) c)
theorem Heads.below {w w' : World} {B n : Nat} {v : Value} {f : Nat → Nat} (h : Heads w B v n f) (hb : Below w.heap.size w w') : Heads w' B v n f := by
  obtain ⟨us, h1, h2⟩ := h
  exact ⟨us, own_below h1 hb, h2⟩
/-- The lengths of the levels. -/
def cntsN (L : List (List Int)) (k : Nat) : List Int := (List.range k).map fun j => ((clsN L j).length : Int)
theorem cntsN_step (L : List (List Int)) (k : Nat) : cntsN L (k + 1) = cntsN L k ++ [((clsN L k).length : Int)] := by unfold cntsN; rw [List.range_succ, List.map_append]; rfl
theorem cntsN_length (L : List (List Int)) (k : Nat) : (cntsN L k).length = k := by simp [cntsN]
def cntsR (L : List (List Int)) (m : Int) : List Int := if basis L = true ∧ 0 ≤ m ∧ m ≤ 6 then cntsN L (m.toNat + 1) else []
theorem cntsR_no {L : List (List Int)} {m : Int} (h : ¬ (basis L = true ∧ 0 ≤ m ∧ m ≤ 6)) : cntsR L m = [] := by unfold cntsR; rw [if_neg h]
theorem cntsR_yes {L : List (List Int)} {k : Nat} (h : basis L = true) (hk : k ≤ 6) : cntsR L (k : Int) = cntsN L (k + 1) := by unfold cntsR; rw [if_pos ⟨h, by omega, by omega⟩, Int.toNat_natCast]
theorem cntsR_le (L : List (List Int)) (m : Int) : (cntsR L m).length ≤ 7 := by
  by_cases h : basis L = true ∧ 0 ≤ m ∧ m ≤ 6
  · unfold cntsR; rw [if_pos h, cntsN_length]; omega
  · rw [cntsR_no h]; simp
end Go.Proofs.YtoiipedomgefaaaDoor


/-
  PLAIN: a permutation's text, and back. Nothing here speaks of the program.
-/

namespace Go.Proofs.YtoiipedomgefaaaDoor
set_option maxRecDepth 100000

def dgt (z : Int) : UInt8 := UInt8.ofNat (48 + z.toNat)
def textL (l : List Int) : List UInt8 := l.map dgt
theorem textL_length (l : List Int) : (textL l).length = l.length := by simp [textL]
theorem textL_nil : textL [] = [] := rfl
theorem textL_step {l : List Int} {k : Nat} {z : Int} (h : l[k]? = some z) : textL (l.take (k + 1)) = textL (l.take k) ++ [dgt z] := by unfold textL; rw [take_snoc_i h, List.map_append, List.map_singleton]
theorem itoa_one {z : Int} (h0 : 1 ≤ z) (h1 : z ≤ 8) : Lib.itoa z = [dgt z] := by
  rw [Lib.itoa, if_neg (by omega)]
  exact Lib.decDigits_one (by omega)
/-- The text's numbers as integers. -/
def textI (l : List Int) : List Int := l.map (48 + ·)
theorem textI_length (l : List Int) : (textI l).length = l.length := by simp [textI]
theorem textI_at {l : List Int} {k : Nat} {z : Int} (h : l[k]? = some z) : (textI l)[k]? = some (48 + z) := by unfold textI; rw [List.getElem?_map, h]; rfl
theorem push_list : ∀ (ns : List Int) (s : ByteArray), (ns.foldl (fun r n => r.push (UInt8.ofNat n.toNat)) s) = ⟨s.data ++ (ns.map fun n => UInt8.ofNat n.toNat).toArray⟩
  | [], s => by simp
  | n :: ns, s => by
    rw [List.foldl_cons, push_list ns]
    simp [ByteArray.push]
theorem textI_bytes {l : List Int} (h : ∀ z ∈ l, 0 ≤ z) : (textI l).map (fun n => UInt8.ofNat n.toNat) = textL l := by
  unfold textI textL
  rw [List.map_map]
  refine List.map_congr_left fun z hz => ?_
  have := h z hz
  simp only [Function.comp, dgt]
  congr 1
  omega

def ptext (l : List Int) : ByteArray := if isP l then (if l = [] then ⟨#[45]⟩ else ⟨(textL l).toArray⟩) else ByteArray.empty
theorem ptext_no {l : List Int} (h : isP l = false) : ptext l = ByteArray.empty := by unfold ptext; rw [if_neg (by simp [h])]
theorem ptext_nil {l : List Int} (h : isP l = true) (h0 : l.length = 0) : ptext l = ⟨#[45]⟩ := by unfold ptext; rw [if_pos h, if_pos (List.eq_nil_of_length_eq_zero h0)]
theorem ptext_yes {l : List Int} (h : isP l = true) (h0 : l.length ≠ 0) : ptext l = ⟨(textL l).toArray⟩ := by
  unfold ptext
  rw [if_pos h, if_neg (fun e => h0 (by rw [e]; rfl))]

/-- A text's numbers. -/
def tnums (s : ByteArray) : List Int := s.data.toList.map fun b => (b.toNat : Int) - 48
theorem tnums_length (s : ByteArray) : (tnums s).length = s.size := by
  unfold tnums
  rw [List.length_map, Array.length_toList]; rfl
theorem tnums_at {s : ByteArray} {k : Nat} (h : k < s.size) : (tnums s)[k]? = some ((s[k].toNat : Int) - 48) := by
  have hl : s.data.toList.length = s.size := by rw [Array.length_toList]; rfl
  unfold tnums
  rw [List.getElem?_map, List.getElem?_eq_getElem (by omega)]
  rfl
theorem tnums_small {s : ByteArray} : ∀ z ∈ tnums s, -48 ≤ z ∧ z ≤ 207 := by
  intro z hz
  unfold tnums at hz
  obtain ⟨b, _, rfl⟩ := List.mem_map.1 hz
  have := b.toNat_lt
  omega
def ppOK (s : ByteArray) : Bool := decide (s = ⟨#[45]⟩) || (decide (0 < s.size) && isP (tnums s))
def ppR (s : ByteArray) : List Int := if s = ⟨#[45]⟩ then [] else if ppOK s then tnums s else []
theorem ppOK_dash : ppOK ⟨#[45]⟩ = true := by simp [ppOK]
theorem ppR_dash : ppR ⟨#[45]⟩ = [] := by simp [ppR]
theorem ppOK_else {s : ByteArray} (h : s ≠ ⟨#[45]⟩) (h0 : 0 < s.size) : ppOK s = isP (tnums s) := by simp [ppOK, h, h0]
theorem ppOK_none {s : ByteArray} (h : s ≠ ⟨#[45]⟩) (h0 : s.size = 0) : ppOK s = false := by simp [ppOK, h, h0]
theorem ppR_yes {s : ByteArray} (h : s ≠ ⟨#[45]⟩) (hk : ppOK s = true) : ppR s = tnums s := by unfold ppR; rw [if_neg h, if_pos hk]
theorem ppR_no {s : ByteArray} (h : s ≠ ⟨#[45]⟩) (hk : ppOK s = false) : ppR s = [] := by unfold ppR; rw [if_neg h, if_neg (by simp [hk])]
theorem ppR_le (s : ByteArray) : (ppR s).length ≤ 8 := by
  by_cases h : s = ⟨#[45]⟩
  · subst h; rw [ppR_dash]; simp
  · cases hk : ppOK s with
    | false => rw [ppR_no h hk]; simp
    | true =>
      rw [ppR_yes h hk]
      by_cases h0 : 0 < s.size
      · rw [ppOK_else h h0] at hk
        exact isP_le hk
      · rw [tnums_length]; omega
end Go.Proofs.YtoiipedomgefaaaDoor


/-
  PLAIN: a permutation is parsed from its text, is undone by its inverse, is its own pattern.
-/

namespace Go.Proofs.YtoiipedomgefaaaDoor
set_option maxRecDepth 100000

theorem comp_inv {p : List Int} (h : isP p = true) : compOK p (invL p) = true ∧ compR p (invL p) = upTo p.length := by
  have hok := compOK_yes h (invL_isP h) (invL_length p).symm
  refine ⟨hok, ?_⟩
  rw [compR_yes hok, invL_length]
  refine List.ext_getElem? fun j => ?_
  by_cases hj : j < p.length
  · obtain ⟨i, hi, h1, h2⟩ := invL_get h hj
    rw [compL_at hj h2 (y := (j : Int) + 1) (by rw [show ((i : Int) + 1).toNat - 1 = i by omega]; exact h1)]
    unfold upTo
    rw [List.getElem?_map, List.getElem?_range hj]
    rfl
  · rw [List.getElem?_eq_none (by rw [compL_length]; omega), List.getElem?_eq_none (by rw [upTo_length]; omega)]
theorem invR_inv {p : List Int} (h : isP p = true) : invR p = invL p := by rw [invR_yes h]; rfl
theorem pat_self {p : List Int} (h : isP p = true) : patOK p = true ∧ patR p = p := by
  have hok := patOK_yes (isP_le h) (isP_true.1 h).2.2
  refine ⟨hok, ?_⟩
  rw [patR_yes hok]
  unfold patL
  refine (List.map_congr_left fun v hv => ?_).trans (List.map_id _)
  have := cnt_isP h hv
  simp only [id]; omega
theorem nums_text {p : List Int} (h : isP p = true) : tnums ⟨(textL p).toArray⟩ = p := by
  unfold tnums textL
  rw [List.map_map]
  refine (List.map_congr_left fun z hz => ?_).trans (List.map_id _)
  have hr := (isP_true.1 h).2.1 z hz
  have h8 := isP_le h
  simp only [Function.comp, id, dgt]
  rw [UInt8.toNat_ofNat']
  omega
theorem pp_text (p : List Int) : ppOK (ptext p) = isP p ∧ (isP p = true → ppR (ptext p) = p) := by
  cases h : isP p with
  | false =>
    rw [ptext_no h]
    refine ⟨?_, fun e => by cases e⟩
    exact ppOK_none (by decide) rfl
  | true =>
    by_cases h0 : p.length = 0
    · rw [ptext_nil h h0, List.eq_nil_of_length_eq_zero h0]
      exact ⟨ppOK_dash, fun _ => ppR_dash⟩
    · have hn := nums_text h
      rw [ptext_yes h h0]
      have hne : (⟨(textL p).toArray⟩ : ByteArray) ≠ ⟨#[45]⟩ := fun e => by
        rw [e] at hn
        have h1 : p = [-3] := by rw [← hn]; decide
        rw [h1] at h
        revert h
        decide
      have hsz : 0 < (⟨(textL p).toArray⟩ : ByteArray).size := by
        rw [← tnums_length, hn]; omega
      have hok : ppOK ⟨(textL p).toArray⟩ = true := by rw [ppOK_else hne hsz, hn, h]
      exact ⟨hok, fun _ => by rw [ppR_yes hne hok, hn]⟩
theorem ptext_size (p : List Int) : (ptext p).size ≤ 8 := by
  cases h : isP p with
  | false => rw [ptext_no h]; decide
  | true =>
    by_cases h0 : p.length = 0
    · rw [ptext_nil h h0]; decide
    · rw [ptext_yes h h0]
      show (textL p).toArray.size ≤ 8
      rw [List.size_toArray, textL_length]
      exact isP_le h
end Go.Proofs.YtoiipedomgefaaaDoor


/-
  PLAIN: the ways of impl's chapter 12: a basis as the order leaves it, a class by the lowers of its permutations, a basis by its class. Nothing here speaks of the program.
-/

namespace Go.Proofs.YtoiipedomgefaaaDoor
set_option maxRecDepth 100000

/-! MakeBasis -/
theorem mkK_mono (Z : List (List Int)) (k : Nat) : ∀ j, (mkK Z k).length ≤ (mkK Z (k + j)).length
  | 0 => Nat.le_refl _
  | j + 1 => by
    refine Nat.le_trans (mkK_mono Z k j) ?_
    rw [show k + (j + 1) = (k + j) + 1 by omega, mkK]
    split
    · rw [List.length_append]; omega
    · exact Nat.le_refl _
theorem mkK_sub (Z : List (List Int)) : ∀ k, k ≤ Z.length → (mkK Z k).Sublist (Z.take k)
  | 0, _ => by simp [mkK]
  | k + 1, hk => by
    have ih := mkK_sub Z k (by omega)
    have h1 : Z[k]? = some (Z.getD k []) := by rw [List.getD_eq_getElem?_getD, List.getElem?_eq_getElem (by omega)]; rfl
    rw [mkK, List.take_add_one, h1]
    split
    · exact ih.append (List.Sublist.refl _)
    · exact ih.trans (List.sublist_append_left _ _)
/-- Nothing of the list occurs in what comes behind it. -/
def Apart (U : List (List Int)) : Prop := ∀ k z, U[k]? = some z → avo (U.take k) z = true
theorem mkK_apart (Z : List (List Int)) : ∀ k, Apart (mkK Z k)
  | 0 => fun k z h => by simp [mkK] at h
  | k + 1 => fun i z h => by
    have ih := mkK_apart Z k
    rw [mkK] at h ⊢
    split at h
    · rename_i ha
      rw [if_pos ha]
      by_cases hi : i < (mkK Z k).length
      · rw [List.getElem?_append_left hi] at h
        rw [List.take_append_of_le_length (by omega)]
        exact ih i z h
      · rw [List.getElem?_append_right (by omega)] at h
        have h0 : i - (mkK Z k).length = 0 := by
          have := (List.getElem?_eq_some_iff.1 h).1
          simp at this
          omega
        rw [h0] at h
        simp at h
        subst h
        rw [show i = (mkK Z k).length by omega, List.take_append_of_le_length (Nat.le_refl _), List.take_length]
        exact ha
    · rename_i ha
      rw [if_neg ha]
      exact ih i z h
theorem ordR_asc (L : List (List Int)) : Asc (ordR L) := by
  unfold ordR
  split
  · exact ordL_asc _ _
  · exact List.Pairwise.nil
theorem ordR_iff {L : List (List Int)} (h : allP L = true) {x : List Int} : x ∈ ordR L ↔ x ∈ L := by rw [ordR_yes h, ordL_mem, List.take_length]
theorem mkO_asc (L : List (List Int)) : Asc (mkO L) := by
  have h := mkK_sub (ordR L) (ordR L).length (Nat.le_refl _)
  rw [List.take_length] at h
  exact List.Pairwise.sublist h (ordR_asc L)
theorem mkO_mem {L : List (List Int)} {x : List Int} (h : x ∈ mkO L) : x ∈ ordR L := mkK_mem _ (Nat.le_refl _) x h
theorem basis_of {U : List (List Int)} (hP : ∀ z ∈ U, isP z = true ∧ z.length ≠ 0) (hA : Asc U) (hp : Apart U) (h8 : U.length ≤ 8) : basis U = true := by
  unfold basis
  rw [decide_eq_true h8, Bool.and_true, List.all_eq_true]
  intro k hk
  have hk := List.mem_range.1 hk
  have hz : U[k]? = some U[k] := List.getElem?_eq_getElem hk
  have h1 := hP _ (List.getElem_mem hk)
  rw [basAt_at hz, h1.1, decide_eq_true h1.2, hp k _ hz, Bool.true_and, Bool.true_and, Bool.and_true, Bool.or_eq_true, decide_eq_true_eq]
  by_cases h0 : k = 0
  · exact .inl h0
  · obtain ⟨a, rfl⟩ : ∃ a, k = a + 1 := ⟨k - 1, by omega⟩
    right
    rw [Nat.add_sub_cancel, getD_row (List.getElem?_eq_getElem (show a < U.length by omega))]
    unfold Asc at hA
    exact List.pairwise_iff_getElem.1 hA a (a + 1) (by omega) hk (by omega)
/-- What MakeBasis turns away at once. -/
def badB (p : List Int) : Bool := !isP p || decide (p.length = 0)
theorem badB_no {p : List Int} (h : badB p = false) : isP p = true ∧ p.length ≠ 0 := by
  unfold badB at h
  simp only [Bool.or_eq_false_iff, Bool.not_eq_false', decide_eq_false_iff_not] at h
  exact h
theorem any_bad_no {L : List (List Int)} (h : L.any badB = false) : ∀ z ∈ L, isP z = true ∧ z.length ≠ 0 := fun z hz => by
  rw [List.any_eq_false] at h
  have := h z hz
  exact badB_no (by cases hb : badB z <;> simp_all)
theorem befL_nil {x : List Int} (h : befL x [] = true) : False := by
  have h1 := befL_len h
  obtain rfl := List.eq_nil_of_length_eq_zero (Nat.le_zero.1 h1)
  rw [befL_irrefl] at h
  cases h
theorem mkOK_bad {L : List (List Int)} (h : L.any badB = true) : mkOK L = false := by
  unfold mkOK
  cases hp : allP L with
  | false => rfl
  | true =>
    rw [Bool.true_and]
    rw [List.any_eq_true] at h
    obtain ⟨z, hz, hb⟩ := h
    have hzp := allP_at hp hz
    unfold badB at hb
    rw [hzp] at hb
    simp at hb
    subst hb
    have hm : ([] : List Int) ∈ ordR L := (ordR_iff hp).2 hz
    have hA := ordR_asc L
    unfold Asc at hA
    obtain ⟨i, hi, he⟩ := List.getElem_of_mem hm
    have h0 : i = 0 := by
      apply Classical.byContradiction
      intro hne
      have h1 := List.pairwise_iff_getElem.1 hA 0 i (by omega) hi (by omega)
      rw [he] at h1
      exact befL_nil h1
    subst h0
    have h1 : mkK (ordR L) 1 = [[]] := by
      rw [mkK_yes (z := []) (by rw [List.getElem?_eq_getElem hi, he]) (by rw [mkK]; rfl)]
      rfl
    have h2 : ∀ j, ([] : List Int) ∈ mkK (ordR L) (1 + j) := by
      intro j
      induction j with
      | zero => rw [h1]; simp
      | succ j ih =>
        rw [show 1 + (j + 1) = (1 + j) + 1 by omega, mkK]
        split
        · exact List.mem_append_left _ ih
        · exact ih
    have h3 := h2 ((ordR L).length - 1)
    rw [show 1 + ((ordR L).length - 1) = (ordR L).length by omega] at h3
    cases hb : basis (mkO L) with
    | false => rfl
    | true => exact absurd rfl (basis_isP hb [] h3).2
theorem mkOK_many {L : List (List Int)} {k : Nat} (hk : k ≤ (ordR L).length) (h : 8 < (mkK (ordR L) k).length) : mkOK L = false := by
  unfold mkOK
  cases hb : basis (mkO L) with
  | false => rw [Bool.and_false]
  | true =>
    have h1 := basis_le hb
    have h2 := mkK_mono (ordR L) k ((ordR L).length - k)
    rw [show k + ((ordR L).length - k) = (ordR L).length by omega] at h2
    unfold mkO at h1
    omega
theorem mkOK_good {L : List (List Int)} (h : L.any badB = false) (h8 : (mkO L).length ≤ 8) : mkOK L = true := by
  have h1 := any_bad_no h
  have hp : allP L = true := allP_yes fun z hz => (h1 z hz).1
  unfold mkOK
  rw [hp, Bool.true_and]
  refine basis_of (fun z hz => h1 z ?_) (mkO_asc L) (mkK_apart _ _) h8
  exact (ordR_iff hp).1 (mkO_mem hz)
/-! IsBasis -/
theorem ord_basis {L : List (List Int)} (h : basis L = true) : allP L = true ∧ ordR L = L := by
  have hp : allP L = true := allP_yes fun z hz => (basis_isP h z hz).1
  exact ⟨hp, asc_unique (ordR_asc L) (basis_asc h) fun x => ordR_iff hp⟩
theorem mkK_take {L : List (List Int)} (h : basis L = true) : ∀ k, k ≤ L.length → mkK L k = L.take k
  | 0, _ => by simp [mkK]
  | k + 1, hk => by
    have ih := mkK_take h k (by omega)
    have hz : L[k]? = some L[k] := List.getElem?_eq_getElem (by omega)
    have h1 := basis_at h (show k < L.length by omega)
    rw [basAt_at hz] at h1
    simp only [Bool.and_eq_true] at h1
    rw [mkK_yes hz (by rw [ih]; exact h1.2), ih, List.take_add_one, hz]
    rfl
theorem mk_basis {L : List (List Int)} (h : basis L = true) : mkO L = L ∧ mkOK L = true := by
  obtain ⟨h1, h2⟩ := ord_basis h
  have h3 : mkO L = L := by
    unfold mkO
    rw [h2, mkK_take h L.length (Nat.le_refl _), List.take_length]
  exact ⟨h3, by unfold mkOK; rw [h1, h3, h]; rfl⟩
theorem basis_made (L : List (List Int)) : basis L = (mkOK L && decide (L = mkR L)) := by
  cases hb : basis L with
  | true =>
    obtain ⟨h1, h2⟩ := mk_basis hb
    rw [mkR_yes h2, h1, h2]
    simp
  | false =>
    cases hk : mkOK L with
    | false => rfl
    | true =>
      rw [Bool.true_and, mkR_yes hk]
      symm
      rw [decide_eq_false_iff_not]
      intro e
      unfold mkOK at hk
      rw [← e, hb, Bool.and_false] at hk
      cases hk
/-! classUpTo -/
def allU (n : Nat) : List (List Int) := (List.range (n + 1)).flatMap permL
theorem mem_allU {n : Nat} (hn : n ≤ 6) {x : List Int} : x ∈ allU n ↔ isP x = true ∧ x.length ≤ n := by
  unfold allU
  rw [List.mem_flatMap]
  constructor
  · rintro ⟨k, hk, hx⟩
    have hk := List.mem_range.1 hk
    have := permL_mem k (by omega) x hx
    exact ⟨this.1, by omega⟩
  · rintro ⟨h1, h2⟩
    exact ⟨x.length, List.mem_range.2 (by omega), perm_all _ x rfl h1⟩
theorem allU_succ (n : Nat) : allU (n + 1) = allU n ++ permL (n + 1) := by unfold allU; rw [List.range_succ (n := n + 1), List.flatMap_append]; simp
theorem allU_asc : ∀ n : Nat, n ≤ 6 → Asc (allU n)
  | 0, _ => by
    have : allU 0 = [[]] := rfl
    rw [this]
    exact List.pairwise_singleton _ _
  | n + 1, hn => by
    unfold Asc
    rw [allU_succ, List.pairwise_append]
    refine ⟨allU_asc n (by omega), permL_asc (n + 1) hn, fun a ha b hb => ?_⟩
    have h1 := ((mem_allU (by omega)).1 ha).2
    have h2 := (permL_mem (n + 1) hn b hb).2
    rw [befL_ne (by omega)]
    exact decide_eq_true (by omega)
theorem allU_len : ∀ n : Nat, n ≤ 6 → (allU n).length ≤ 874 := by decide +kernel
theorem asc_take {Z : List (List Int)} (h : Asc Z) {k : Nat} {p q : List Int} (hp : Z[k]? = some p) (hq : q ∈ Z) (hb : befL q p = true) : q ∈ Z.take k := by
  obtain ⟨i, hi, rfl⟩ := List.getElem_of_mem hq
  obtain ⟨hk, rfl⟩ := List.getElem?_eq_some_iff.1 hp
  unfold Asc at h
  have hik : i < k := by
    apply Classical.byContradiction
    intro hno
    rcases Nat.lt_or_ge k i with h1 | h1
    · have h2 := List.pairwise_iff_getElem.1 h k i hk hi h1
      rw [befL_asymm h2] at hb; cases hb
    · obtain rfl : i = k := by omega
      rw [befL_irrefl] at hb; cases hb
  exact List.mem_of_getElem? (i := i) (by rw [List.getElem?_take_of_lt hik]; exact List.getElem?_eq_getElem hi)
/-- Every lower of p is in the list. -/
def lowIn (S : List (List Int)) (p : List Int) : Bool := (lowR p).all fun q => decide (q ∈ S)
theorem low_bef {p q : List Int} (hp : isP p = true) (h : q ∈ lowR p) : befL q p = true := by
  have h1 := low_len hp h
  rw [befL_ne (by omega)]
  exact decide_eq_true (by omega)
theorem avo_lows {L : List (List Int)} (hL : ∀ b ∈ L, isP b = true) {p : List Int} (hp : isP p = true) : avo L p = (!decide (p ∈ L) && (lowR p).all (avo L)) := by
  rw [Bool.eq_iff_iff]
  simp only [Bool.and_eq_true, Bool.not_eq_true', decide_eq_false_iff_not, List.all_eq_true]
  constructor
  · intro h
    refine ⟨fun hm => ?_, fun q hq => avo_low hL hp h hq⟩
    have h1 := avo_yes.1 h p hm
    rw [hasO_self hp] at h1; cases h1
  · rintro ⟨h1, h2⟩
    cases h : avo L p with
    | true => rfl
    | false =>
      obtain ⟨b, hb, hh⟩ := avo_not h
      obtain ⟨q, hq, hqb⟩ := low_has hp (hL b hb) hh (fun e => h1 (e ▸ hb))
      rw [avo_yes.1 (h2 q hq) b hb] at hqb
      cases hqb
/-- What classUpTo asks of the k-th permutation. -/
theorem cls_step {L : List (List Int)} (hL : ∀ b ∈ L, isP b = true) {n k : Nat} (hn : n ≤ 6) {p : List Int} (hp : (allU n)[k]? = some p) : avo L p = (!decide (p ∈ L) && lowIn (sift (avo L) (allU n) k) p) := by
  obtain ⟨h1, h2⟩ := (mem_allU hn).1 (List.mem_of_getElem? hp)
  rw [avo_lows hL h1]
  congr 1
  unfold lowIn
  rw [Bool.eq_iff_iff, List.all_eq_true, List.all_eq_true]
  refine forall_congr' fun q => forall_congr' fun hq => ?_
  rw [decide_eq_true_eq]
  unfold sift
  rw [List.mem_filter]
  constructor
  · intro h
    exact ⟨asc_take (allU_asc n hn) hp ((mem_allU hn).2 ⟨low_all hq, by have := low_len h1 hq; omega⟩) (low_bef h1 hq), h⟩
  · exact fun h => h.2
def clsU (L : List (List Int)) (n : Nat) : List (List Int) := (allU n).filter (avo L)
theorem clsU_sift (L : List (List Int)) (n : Nat) : clsU L n = sift (avo L) (allU n) (allU n).length := by rw [sift_all]; rfl
theorem clsU_all (L : List (List Int)) (n : Nat) : clsU L n = allC L n := by
  unfold clsU allU allC
  rw [List.filter_flatMap]
  rfl
theorem clsU_mem {L : List (List Int)} {n : Nat} (hn : n ≤ 6) {x : List Int} (h : x ∈ clsU L n) : isP x = true ∧ x.length ≤ n := by
  unfold clsU at h
  exact (mem_allU hn).1 (List.mem_filter.1 h).1
theorem clsU_len (L : List (List Int)) {n : Nat} (hn : n ≤ 6) : (clsU L n).length ≤ 874 := Nat.le_trans (List.length_filter_le _ _) (allU_len n hn)
/-! ClassOf -/
theorem clsU_top (L : List (List Int)) {n : Nat} (hn : n ≤ 6) : (clsU L n).filter (fun p => !decide (p.length < n)) = clsN L n := by
  unfold clsU clsN
  rw [List.filter_filter]
  have h0 : ∀ m, m ≤ n → (∀ x ∈ allU m, x.length < n) → (allU m).filter (fun a => !decide (a.length < n) && avo L a) = [] := by
    intro m hm h
    rw [List.filter_eq_nil_iff]
    intro x hx
    rw [decide_eq_true (h x hx)]
    simp
  have h1 : ∀ x ∈ permL n, (!decide (x.length < n) && avo L x) = avo L x := fun x hx => by
    rw [decide_eq_false (by have := (permL_mem n hn x hx).2; omega)]
    rfl
  cases n with
  | zero =>
    rw [show allU 0 = permL 0 from rfl]
    exact List.filter_congr h1
  | succ n =>
    rw [allU_succ, List.filter_append, h0 n (by omega) (fun x hx => by have := ((mem_allU (by omega)).1 hx).2; omega), List.nil_append]
    exact List.filter_congr h1
/-! ClassCounts -/
def tallyU (Z : List (List Int)) (n k : Nat) : List Int := (List.range (n + 1)).map fun j => (((Z.take k).countP fun p => decide (p.length = j) : Nat) : Int)
theorem tallyU_length (Z : List (List Int)) (n k : Nat) : (tallyU Z n k).length = n + 1 := by simp [tallyU]
theorem tallyU_at {Z : List (List Int)} {n k j : Nat} (h : j ≤ n) : (tallyU Z n k)[j]? = some (((Z.take k).countP fun p => decide (p.length = j) : Nat) : Int) := by
  unfold tallyU
  rw [List.getElem?_map, List.getElem?_range (by omega)]
  rfl
theorem tallyU_zero (Z : List (List Int)) (n : Nat) : tallyU Z n 0 = List.replicate (n + 1) 0 := by
  unfold tallyU
  apply List.ext_getElem?
  intro j
  by_cases hj : j < n + 1
  · rw [List.getElem?_map, List.getElem?_range hj, List.getElem?_replicate, if_pos hj]
    simp
  · rw [List.getElem?_eq_none (by simp; omega), List.getElem?_eq_none (by simp; omega)]
theorem tallyU_step {Z : List (List Int)} {n k : Nat} {z : List Int} (hz : Z[k]? = some z) :
    tallyU Z n (k + 1) = (tallyU Z n k).set z.length ((((Z.take k).countP fun p => decide (p.length = z.length) : Nat) : Int) + 1) := by
  apply List.ext_getElem?
  intro j
  by_cases hj : j < n + 1
  · rw [List.getElem?_set, tallyU_at (by omega)]
    rw [List.take_add_one, hz, Option.toList_some, List.countP_append]
    by_cases e : z.length = j
    · subst e
      rw [if_pos rfl, if_pos (by rw [tallyU_length]; omega)]
      simp
    · rw [if_neg e, tallyU_at (by omega)]
      simp [e]
  · rw [List.getElem?_eq_none (by rw [tallyU_length]; omega), List.getElem?_eq_none (by rw [List.length_set, tallyU_length]; omega)]
theorem tallyU_all (L : List (List Int)) {n : Nat} (hn : n ≤ 6) : tallyU (clsU L n) n (clsU L n).length = cntsN L (n + 1) := by
  unfold tallyU cntsN
  rw [List.take_length]
  refine List.map_congr_left fun j hj => ?_
  have hj := List.mem_range.1 hj
  congr 1
  rw [clsU_all]
  unfold allC
  rw [List.countP_flatMap]
  have h1 : ∀ k, k ≤ 6 → (clsN L k).countP (fun p => decide (p.length = j)) = if k = j then (clsN L k).length else 0 := fun k hk => by
    by_cases e : k = j
    · rw [if_pos e, List.countP_eq_length]
      intro x hx
      rw [decide_eq_true_eq, ← e]
      exact ((mem_clsN hk).1 hx).2.1
    · rw [if_neg e, List.countP_eq_zero]
      intro x hx
      rw [decide_eq_true_eq]
      have := ((mem_clsN hk).1 hx).2.1
      omega
  have h2 : ∀ m, m ≤ 7 → ((List.range m).map ((List.countP fun p => decide (p.length = j)) ∘ clsN L)).sum = if j < m then (clsN L j).length else 0 := by
    intro m
    induction m with
    | zero => intro _; simp
    | succ m ih =>
      intro hm
      rw [List.range_succ, List.map_append, List.sum_append, ih (by omega)]
      simp only [List.map_cons, List.map_nil, List.sum_cons, List.sum_nil, Function.comp_apply, Nat.add_zero]
      rw [h1 m (by omega)]
      by_cases e : m = j
      · subst e
        rw [if_neg (by omega), if_pos rfl, if_pos (by omega), Nat.zero_add]
      · rw [if_neg e, Nat.add_zero]
        by_cases h3 : j < m
        · rw [if_pos h3, if_pos (by omega)]
        · rw [if_neg h3, if_neg (by omega)]
  rw [h2 (n + 1) (by omega), if_pos hj]
/-! BasisUpTo -/
/-- What BasisUpTo strikes. -/
def outU (L : List (List Int)) (p : List Int) : Bool := decide (p ∈ L ++ [[]]) || !lowIn (L ++ [[]]) p
theorem outU_in {L : List (List Int)} {p : List Int} (h : p.length ≠ 0) : (!outU L p) = fineU L p := by
  unfold outU fineU lowIn okL
  rw [Bool.not_or, Bool.not_not]
  congr 1
  · congr 1
    rw [decide_eq_decide, List.mem_append, List.mem_singleton]
    constructor
    · rintro (h1 | rfl)
      · exact h1
      · exact absurd rfl h
    · exact .inl
  · congr 1
    funext q
    rw [Bool.eq_iff_iff, Bool.or_eq_true, decide_eq_true_eq, decide_eq_true_eq, decide_eq_true_eq, List.mem_append, List.mem_singleton, List.length_eq_zero_iff]
    exact Or.comm
theorem bu_all (L : List (List Int)) : ∀ n : Nat, n ≤ 6 → (allU n).filter (fun p => !outU L p) = buK L n
  | 0, _ => by
    rw [show allU 0 = [[]] from rfl, buK]
    have : outU L [] = true := by unfold outU; simp
    simp [this]
  | n + 1, hn => by
    rw [allU_succ, List.filter_append, bu_all L n (by omega), buK]
    congr 1
    exact List.filter_congr fun x hx => outU_in (by have := (permL_mem (n + 1) hn x hx).2; omega)
/-! texts tell permutations -/
theorem ptext_inj {p q : List Int} (hp : isP p = true) (hq : isP q = true) (h : ptext p = ptext q) : p = q := by
  have h1 := (pp_text p).2 hp
  have h2 := (pp_text q).2 hq
  rw [← h1, ← h2, h]
end Go.Proofs.YtoiipedomgefaaaDoor
