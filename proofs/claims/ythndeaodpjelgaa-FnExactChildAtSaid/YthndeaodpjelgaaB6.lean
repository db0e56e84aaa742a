/-
  Words and contracts that the laws lean on, bundled: ClassC, OccR, PatF, ClassU, ClassF, ChildM, ChildN, ChildS, JoinS.
-/
import Derived.Test.YthndeaodpjelgaaB5
import Derived.Test.YthndeaodpjelgaaB4
import Derived.Test.YthndeaodpjelgaaB3
import Derived.Deep.RegionHeld3
import Derived.Test.YthndeaodpjelgaaB2
import Derived.Test.YthndeaodpjelgaaB1

/-
  spec.l12Class and spec.ClassCounts, by their contracts.
-/

namespace Go.Proofs.Ythndeaodpjelgaa
set_option maxRecDepth 100000
open Go.RowKit

theorem listsInfo : (Try.prog.info? 37).map (fun i => (i.zero, i.size, i.bytes)) = some (some (.slice none 0 0), 1, 24) := by kernel_rfl
/-- A change of one older block. -/
theorem IntsS.off {w w' : World} {B cb : Nat} {v : Value} {zss : List (List Int)} (h : IntsS w B v zss) (hg : w.grownBy w' (some cb)) (hc : cb < B) : IntsS w' B v zss := by
  obtain ⟨vs, h1, h2⟩ := h
  refine ⟨vs, h1.kept hg ?_, ⟨h2.len, fun i u z hu hz => ?_, h2.away⟩⟩
  · cases hv : v.ownBlock with
    | none => exact .inl rfl
    | some g => exact .inr fun e => by have := (h1.lt g hv).1; injection e with e; omega
  · have hr := h2.row i u z hu hz
    refine Row.kept hr hg ?_
    cases hv : u.ownBlock with
    | none => exact .inl rfl
    | some g => exact .inr fun e => by have := (Row.lt hr g hv).1; injection e with e; omega
/-- Rows of two types lie apart. -/
theorem own_types {w : World} {B B' n m : Nat} {e e' : TypeId} {u v : Value} {xs ys : List Value} (h : w.ownsRow B e 1 v n xs) (k : w.ownsRow B' e' 1 u m ys) (hne : e ≠ e') : v.ownBlock = none ∨ v.ownBlock ≠ u.ownBlock := by
  rcases h.2 with ⟨rfl, _⟩ | ⟨g, cap, cur, rfl, _, hg, _⟩
  · exact .inl rfl
  · refine .inr fun he => ?_
    rcases k.2 with ⟨rfl, _⟩ | ⟨g', cap', cur', rfl, _, hg', _⟩
    · simp [Value.ownBlock] at he
    · simp [Value.ownBlock] at he
      subst he
      rw [hg] at hg'
      injection hg' with hg'
      injection hg' with _ h2
      exact hne h2
theorem nxtK_lev (L : List (List Int)) (k : Nat) : nxtK L (lev L k) (k + 1) (lev L k).length = lev L (k + 1) := by unfold nxtK; rw [List.take_length]; rfl
/-- A list of lists of rows: how long each is. -/
def Heads (w : World) (B : Nat) (v : Value) (n : Nat) (f : Nat → Nat) : Prop := ∃ us : List Value, w.ownsRow B 37 1 v n us ∧ ∀ k, k < n → ∃ A c, us[k]? = some (.slice A (f k) c)
theorem Heads.below {w w' : World} {B n : Nat} {v : Value} {f : Nat → Nat} (h : Heads w B v n f) (hb : Below w.heap.size w w') : Heads w' B v n f := by
  obtain ⟨us, h1, h2⟩ := h
  exact ⟨us, own_below h1 hb, h2⟩
/-- The lengths of the levels. -/
def cntsN (L : List (List Int)) (k : Nat) : List Int := (List.range k).map fun j => ((clsN L j).length : Int)
theorem cntsN_step (L : List (List Int)) (k : Nat) : cntsN L (k + 1) = cntsN L k ++ [((clsN L k).length : Int)] := by unfold cntsN; rw [List.range_succ, List.map_append]; rfl
theorem cntsN_length (L : List (List Int)) (k : Nat) : (cntsN L k).length = k := by simp [cntsN]
def cntsR (L : List (List Int)) (m : Int) : List Int := if basis L = true ∧ 0 ≤ m ∧ m ≤ 6 then cntsN L (m.toNat + 1) else []
theorem cntsR_no {L : List (List Int)} {m : Int} (h : ¬ (basis L = true ∧ 0 ≤ m ∧ m ≤ 6)) : cntsR L m = [] := by unfold cntsR; rw [if_neg h]
theorem cntsR_yes {L : List (List Int)} {k : Nat} (h : basis L = true) (hk : k ≤ 6) : cntsR L (k : Int) = cntsN L (k + 1) := by unfold cntsR; rw [if_pos ⟨h, by omega, by omega⟩, Int.toNat_natCast]
theorem cntsR_le (L : List (List Int)) (m : Int) : (cntsR L m).length ≤ 7 := by
  by_cases h : basis L = true ∧ 0 ≤ m ∧ m ≤ 6
  · unfold cntsR; rw [if_pos h, cntsN_length]; omega
  · rw [cntsR_no h]; simp
end Go.Proofs.Ythndeaodpjelgaa


/-
  spec.OccurrencesOf, spec.CountPattern, spec.HasPattern, spec.IsOccurrence, by their contracts.
-/

namespace Go.Proofs.Ythndeaodpjelgaa
set_option maxRecDepth 100000
open Go.RowKit

/-- How often q occurs in p. -/
def numOcc (p q : List Int) : Int := if isP p && isP q then ((occR p q).length : Int) else -1
def hasR (p q : List Int) : Bool := decide (1 ≤ numOcc p q)
theorem numOcc_rng (p q : List Int) : -1 ≤ numOcc p q ∧ numOcc p q ≤ 256 := by
  unfold numOcc
  by_cases h : (isP p && isP q) = true
  · rw [if_pos h]
    have := occ_size p q (by simp at h; exact h.1)
    omega
  · rw [if_neg h]; omega
end Go.Proofs.Ythndeaodpjelgaa


/-
  PLAIN: patterns of patterns are patterns; what FnPatterns needs of them.
-/

namespace Go.Proofs.Ythndeaodpjelgaa
set_option maxRecDepth 100000

theorem hasR_yes {p q : List Int} (hp : isP p = true) (hq : isP q = true) (h : 0 < (occR p q).length) : hasR p q = true := by
  unfold hasR numOcc
  rw [if_pos (by simp [hp, hq])]
  exact decide_eq_true (by omega)
theorem hasR_iff {p q : List Int} (hp : isP p = true) (hq : isP q = true) : hasR p q = true ↔ ∃ pl, PlOK p.length pl ∧ pl.length = q.length ∧ Alike (nums p pl) q := by
  constructor
  · intro h
    unfold hasR numOcc at h
    rw [if_pos (by simp [hp, hq])] at h
    have := of_decide_eq_true h
    obtain ⟨pl, hpl⟩ := List.exists_mem_of_length_pos (show 0 < (occR p q).length by omega)
    obtain ⟨_, _, h3, h4, h5⟩ := isOcc_iff.1 (mem_occ.1 hpl)
    exact ⟨pl, h4, h3, (pat_eq_iff hq).1 h5⟩
  · rintro ⟨pl, h1, h2, h3⟩
    exact hasR_yes hp hq (List.length_pos_of_mem (a := pl) (mem_occ.2 (isOcc_iff.2 ⟨hp, hq, h2, h1, (pat_eq_iff hq).2 h3⟩)))
theorem hasR_sub {p s : List Int} (hp : isP p = true) (h : s.Sublist p) (hs : isP (patL s) = true) : hasR p (patL s) = true := hasR_yes hp hs (occ_sub hp h hs)
theorem numOcc_yes {p q : List Int} (hp : isP p = true) (hq : isP q = true) : numOcc p q = ((occR p q).length : Int) := by unfold numOcc; rw [if_pos (by simp [hp, hq])]
theorem num_inv {p q : List Int} (hp : isP p = true) (hq : isP q = true) : numOcc (invR p) (invR q) = ((occR p q).length : Int) := by
  rw [invR_yes hp, invR_yes hq]
  have := occ_inv_len hp hq
  unfold invL at this
  rw [numOcc_yes (isP_inv hp) (isP_inv hq), this]
theorem num_rev {p q : List Int} (hp : isP p = true) (hq : isP q = true) : numOcc (revR p) (revR q) = ((occR p q).length : Int) := by
  rw [revR_yes hp, revR_yes hq, numOcc_yes (isP_rev hp) (isP_rev hq), occ_rev_len]
/-- Each pattern is one. -/
theorem patK_mem {p : List Int} {k : Int} : ∀ {s : Nat} {x : List Int}, x ∈ patK p k s → ∃ t, x = patL (subK p t p.length)
  | 0, x, h => by rw [show patK p k 0 = [] from rfl] at h; cases h
  | s + 1, x, h => by
    by_cases hk : ((subK p s p.length).length : Int) = k
    · rw [patK_yes hk, mem_putL] at h
      rcases h with h | h
      · exact patK_mem h
      · exact ⟨s, h⟩
    · rw [patK_no hk] at h
      exact patK_mem h
theorem pats_has {p x : List Int} {k : Int} (h : x ∈ patsR p k) : hasR p x = true := by
  cases hk : patsOK p k with
  | false => rw [patsR_no hk] at h; cases h
  | true =>
    have hp : isP p = true := by unfold patsOK at hk; rw [Bool.and_eq_true] at hk; exact hk.1
    rw [patsR_yes hk] at h
    obtain ⟨t, rfl⟩ := patK_mem h
    refine hasR_sub hp ?_ (subK_isP hp t)
    have := subK_sub p t p.length (Nat.le_refl _)
    rwa [List.take_length] at this
theorem wpl_has {p : List Int} {x : Int} (h : wplOK p x = true) : hasR p (wplR p x) = true := by
  have hp : isP p = true := by unfold wplOK at h; rw [Bool.and_eq_true] at h; exact h.1
  rw [wplR_yes h]
  exact hasR_sub hp (cutAt_sub p _) (cutAt_isP hp _)
theorem wpl_low {p : List Int} {x : Int} (h : wplOK p x = true) : wplR p x ∈ lowR p := by
  have hp : isP p = true := by unfold wplOK at h; rw [Bool.and_eq_true] at h; exact h.1
  have hx : 1 ≤ x ∧ x ≤ (p.length : Int) := by unfold wplOK at h; rw [Bool.and_eq_true] at h; exact of_decide_eq_true h.2
  rw [wplR_yes h, lowR_yes hp]
  unfold lowK
  rw [(foldl_put _ [] List.Pairwise.nil).2.1]
  refine .inr (List.mem_map.2 ⟨x.toNat - 1, List.mem_range.2 (by omega), rfl⟩)
/-! how much it is -/
theorem tot_room (m : Nat) : ∀ l : List (List Int), (∀ z ∈ l, z.length ≤ m) → tot l ≤ m * l.length
  | [], _ => by simp [tot]
  | z :: l, h => by
    have h1 := h z (by simp)
    have h2 := tot_room m l fun y hy => h y (by simp [hy])
    simp only [tot, List.length_cons, List.map_cons, List.sum_cons, Nat.mul_add, Nat.mul_one] at h2 ⊢
    omega
theorem occ_room (p q : List Int) : (occR p q).length ≤ 256 ∧ tot (occR p q) ≤ 2048 := by
  have ht := tot_room 8 (occR p q) fun z hz => by
    obtain ⟨_, h2, h3, _⟩ := isOcc_iff.1 (mem_occ.1 hz)
    have := isP_le h2
    omega
  have hnum := numOcc_rng p q
  have h8 : (occR p q).length ≤ 256 := by
    cases hpp : isP p with
    | false => rw [occR_no (.inl hpp)]; simp
    | true =>
      cases hqq : isP q with
      | false => rw [occR_no (.inr hqq)]; simp
      | true => rw [numOcc_yes hpp hqq] at hnum; omega
  exact ⟨h8, by omega⟩
theorem pats_all {p z : List Int} {k : Int} (h : z ∈ patsR p k) : isP z = true := by
  cases hk : patsOK p k with
  | false => rw [patsR_no hk] at h; cases h
  | true =>
    have hp : isP p = true := by unfold patsOK at hk; rw [Bool.and_eq_true] at hk; exact hk.1
    rw [patsR_yes hk] at h
    exact patK_all hp k _ z h
theorem pats_size (p : List Int) (k : Int) : (patsR p k).length ≤ 256 ∧ tot (patsR p k) ≤ 2048 := by
  have ht := tot_room 8 (patsR p k) fun z hz => isP_le (pats_all hz)
  have h8 : (patsR p k).length ≤ 256 := by
    cases hk : patsOK p k with
    | false => rw [patsR_no hk]; simp
    | true =>
      have hp : isP p = true := by unfold patsOK at hk; rw [Bool.and_eq_true] at hk; exact hk.1
      rw [patsR_yes hk]
      have h1 := patK_len p k (2 ^ p.length)
      have h2 : 2 ^ p.length ≤ 2 ^ 8 := Nat.pow_le_pow_right (by omega) (isP_le hp)
      omega
  exact ⟨h8, by omega⟩
theorem low_all {p z : List Int} (h : z ∈ lowR p) : isP z = true := by
  cases hp : isP p with
  | false => rw [lowR_no hp] at h; cases h
  | true => rw [lowR_yes hp] at h; exact lowK_all hp _ z h
theorem low_size (p : List Int) : (lowR p).length ≤ 8 ∧ tot (lowR p) ≤ 64 := by
  have ht := tot_room 8 (lowR p) fun z hz => isP_le (low_all hz)
  have h8 : (lowR p).length ≤ 8 := by
    cases hp : isP p with
    | false => rw [lowR_no hp]; simp
    | true =>
      rw [lowR_yes hp]
      have h1 := lowK_len p p.length
      have := isP_le hp
      omega
  exact ⟨h8, by omega⟩
theorem occ_is {p q pl : List Int} (h : pl ∈ occR p q) : isOcc p q pl = true := mem_occ.1 h
end Go.Proofs.Ythndeaodpjelgaa


/-
  spec.l12In and spec.BasisUpTo, by their contracts.
-/

namespace Go.Proofs.Ythndeaodpjelgaa
set_option maxRecDepth 100000
open Go.RowKit

/-- What BasisUpTo keeps. -/
def okL (L : List (List Int)) (q : List Int) : Bool := decide (q.length = 0) || decide (q ∈ L)
def fineU (L : List (List Int)) (p : List Int) : Bool := !decide (p ∈ L) && (lowR p).all (okL L)
def buK (L : List (List Int)) : Nat → List (List Int)
  | 0 => []
  | k + 1 => buK L k ++ (permL (k + 1)).filter (fineU L)
def buR (L : List (List Int)) (m : Int) : List (List Int) := if allP L = true ∧ 0 ≤ m ∧ m ≤ 6 then buK L m.toNat else []
theorem buR_no {L : List (List Int)} {m : Int} (h : ¬ (allP L = true ∧ 0 ≤ m ∧ m ≤ 6)) : buR L m = [] := by unfold buR; rw [if_neg h]
theorem buR_yes {L : List (List Int)} {k : Nat} (h : allP L = true) (hk : k ≤ 6) : buR L (k : Int) = buK L k := by unfold buR; rw [if_pos ⟨h, by omega, by omega⟩, Int.toNat_natCast]
theorem buK_le (L : List (List Int)) : ∀ k, k ≤ 6 → (buK L k).length ≤ 720 * k
  | 0, _ => Nat.le_refl _
  | k + 1, h => by
    have ih := buK_le L k (by omega)
    have h1 := (permL_small (k + 1) h).1
    have h2 := List.length_filter_le (fineU L) (permL (k + 1))
    rw [buK, List.length_append]
    omega
theorem okL_take {L low : List (List Int)} {i : Nat} {q : List Int} (h : low[i]? = some q) : (low.take (i + 1)).all (okL L) = ((low.take i).all (okL L) && okL L q) := by rw [List.take_add_one, h]; simp
theorem okL_false {L low : List (List Int)} {i : Nat} (h : (low.take i).all (okL L) = false) : low.all (okL L) = false := by
  rw [List.all_eq_false] at h ⊢
  obtain ⟨x, hx, he⟩ := h
  exact ⟨x, List.mem_of_mem_take hx, he⟩
end Go.Proofs.Ythndeaodpjelgaa


/-
  PLAIN: a class has every pattern of its permutations; its basis is found again. Nothing here speaks of the program.
-/

namespace Go.Proofs.Ythndeaodpjelgaa
set_option maxRecDepth 100000

theorem short_cut {s p : List Int} (h : s.Sublist p) : s.length < p.length → ∃ i, i < p.length ∧ s.Sublist (cutAt p i) := by
  induction h with
  | slnil => intro h; simp at h
  | cons a h ih => intro _; exact ⟨0, by simp, by simpa [cutAt] using h⟩
  | cons_cons a h ih =>
    intro hl
    simp only [List.length_cons, Nat.add_lt_add_iff_right] at hl
    obtain ⟨i, hi, hs⟩ := ih hl
    exact ⟨i + 1, by simpa using hi, by simpa [cutAt] using hs⟩
theorem cut_sub (p : List Int) (i : Nat) : (cutAt p i).Sublist p := by
  unfold cutAt
  have h := List.take_append_drop i p
  conv => rhs; rw [← h]
  exact (List.Sublist.refl _).append (List.drop_sublist_drop_left p (Nat.le_succ i))
theorem low_mem {p q : List Int} (hp : isP p = true) : q ∈ lowR p ↔ ∃ i, i < p.length ∧ q = patL (cutAt p i) := by rw [lowR_yes hp]; exact lowK_mem
theorem low_len {p q : List Int} (hp : isP p = true) (h : q ∈ lowR p) : q.length + 1 = p.length := by
  obtain ⟨i, hi, rfl⟩ := (low_mem hp).1 h
  rw [patL_length]
  exact cutAt_len hi
/-- What occurs in a pattern of one number less occurs in the whole; what is shorter and occurs, occurs in one of those. -/
theorem has_low {p q b : List Int} (hp : isP p = true) (hb : isP b = true) (hq : q ∈ lowR p) (h : hasO q b = true) : hasO p b = true := by
  have hqp := low_all hq
  obtain ⟨i, hi, rfl⟩ := (low_mem hp).1 hq
  exact hasO_pat hp hb (cut_sub p i) hqp h
theorem low_has {p b : List Int} (hp : isP p = true) (hb : isP b = true) (h : hasO p b = true) (hne : b ≠ p) : ∃ q ∈ lowR p, hasO q b = true := by
  obtain ⟨s, hs, hsb⟩ := (hasO_iff hp hb).1 h
  have hl : s.length < p.length := by
    apply Nat.lt_of_le_of_ne hs.length_le
    intro e
    apply hne
    rw [← hsb, hs.eq_of_length e, patL_self hp]
  obtain ⟨i, hi, hsi⟩ := short_cut hs hl
  have hq : patL (cutAt p i) ∈ lowR p := (low_mem hp).2 ⟨i, hi, rfl⟩
  refine ⟨_, hq, (hasO_iff (low_all hq) hb).2 ⟨s.map fun v => 1 + (cnt (cutAt p i) v : Int), ?_, ?_⟩⟩
  · unfold patL
    exact hsi.map _
  · rw [← hsb]
    refine patL_alike ⟨by simp, fun a c ha hc => ?_⟩
    rw [List.length_map] at ha hc
    have e : ∀ k, k < s.length → at0 (s.map fun v => 1 + (cnt (cutAt p i) v : Int)) k = 1 + (cnt (cutAt p i) (at0 s k) : Int) := fun k hk => at0_of (by rw [List.getElem?_map, at0_some hk]; rfl)
    rw [e a ha, e c hc, cnt_iff (l := cutAt p i) (hsi.subset (at0_mem ha))]
    omega
theorem avo_not {L : List (List Int)} {p : List Int} (h : avo L p = false) : ∃ b ∈ L, hasO p b = true := by
  apply Classical.byContradiction
  intro hno
  have : avo L p = true := avo_yes.2 fun q hq => by
    cases h3 : hasO p q with
    | false => rfl
    | true => exact (hno ⟨q, hq, h3⟩).elim
  rw [h] at this; cases this
theorem avo_low {L : List (List Int)} {p q : List Int} (hL : ∀ b ∈ L, isP b = true) (hp : isP p = true) (ha : avo L p = true) (hq : q ∈ lowR p) : avo L q = true := by
  cases h : avo L q with
  | true => rfl
  | false =>
    obtain ⟨b, hb, hh⟩ := avo_not h
    have := has_low hp (hL b hb) hq hh
    rw [avo_yes.1 ha b hb] at this; cases this
/-- A class has every pattern of its permutations. -/
theorem inC_low {L : List (List Int)} {p q : List Int} (h : inC L p = true) (hq : q ∈ lowR p) : inC L q = true := by
  unfold inC at h ⊢
  simp only [Bool.and_eq_true] at h ⊢
  exact ⟨⟨h.1.1, low_all hq⟩, avo_low (fun b hb => (basis_isP h.1.1 b hb).1) h.1.2 h.2 hq⟩
theorem basis_at {L : List (List Int)} (h : basis L = true) {k : Nat} (hk : k < L.length) : basAt L k = true := by
  unfold basis at h
  simp only [Bool.and_eq_true] at h
  exact List.all_eq_true.1 h.1 k (List.mem_range.2 hk)
theorem basis_step {L : List (List Int)} (h : basis L = true) {k : Nat} (hk : k + 1 < L.length) : befL L[k] L[k + 1] = true := by
  have h1 := basis_at h hk
  rw [basAt_at (List.getElem?_eq_getElem hk)] at h1
  simp only [Bool.and_eq_true, Bool.or_eq_true, decide_eq_true_eq] at h1
  rcases h1.1.2 with h2 | h2
  · omega
  · rwa [Nat.add_sub_cancel, getD_row (List.getElem?_eq_getElem (show k < L.length by omega))] at h2
theorem basis_asc {L : List (List Int)} (h : basis L = true) : Asc L := by
  unfold Asc
  rw [List.pairwise_iff_getElem]
  intro i j hi hj hij
  induction j with
  | zero => omega
  | succ j ih =>
    by_cases e : i = j
    · subst e; exact basis_step h hj
    · exact befL_trans (ih (by omega) (by omega)) (basis_step h hj)
theorem befL_len {x y : List Int} (h : befL x y = true) : x.length ≤ y.length := by
  by_cases e : x.length = y.length
  · omega
  · rw [befL_ne e] at h
    have := of_decide_eq_true h
    omega
theorem basis_apart {L : List (List Int)} (h : basis L = true) {b p : List Int} (hb : b ∈ L) (hp : p ∈ L) (hh : hasO p b = true) : b = p := by
  obtain ⟨i, hi, rfl⟩ := List.getElem_of_mem hb
  obtain ⟨k, hk, rfl⟩ := List.getElem_of_mem hp
  have hip := (basis_isP h _ (List.getElem_mem hi)).1
  have hkp := (basis_isP h _ (List.getElem_mem hk)).1
  have hl := hasO_len hkp hip hh
  rcases Nat.lt_trichotomy i k with hlt | heq | hgt
  · have h1 := basis_at h hk
    rw [basAt_at (List.getElem?_eq_getElem hk)] at h1
    simp only [Bool.and_eq_true] at h1
    have h2 : L[i] ∈ L.take k := List.mem_of_getElem? (i := i) (by rw [List.getElem?_take_of_lt hlt]; exact List.getElem?_eq_getElem hi)
    rw [avo_yes.1 h1.2 _ h2] at hh; cases hh
  · subst heq; rfl
  · have h1 := basis_asc h
    unfold Asc at h1
    have h2 := befL_len (List.pairwise_iff_getElem.1 h1 k i hk hi hgt)
    exact hl.2 (by omega)
/-- The permutations of the class up to a length. -/
def allC (L : List (List Int)) (n : Nat) : List (List Int) := (List.range (n + 1)).flatMap (clsN L)
def dn1 (f x : Int) : Int := if f < x then x - 1 else x
theorem perm_all : ∀ (n : Nat) (p : List Int), p.length = n → isP p = true → p ∈ permL n
  | 0, p, hl, _ => by
    obtain rfl := List.eq_nil_of_length_eq_zero hl
    simp [permL]
  | n + 1, [], hl, _ => by simp at hl
  | n + 1, f :: t, hl, hp => by
    have h := isP_true.1 hp
    rw [List.length_cons, Nat.add_right_cancel_iff] at hl
    have hnd := List.nodup_cons.1 h.2.2
    have hne : ∀ x ∈ t, x ≠ f := fun x hx e => hnd.1 (by rw [← e]; exact hx)
    have hr : ∀ x ∈ f :: t, 1 ≤ x ∧ x ≤ (n : Int) + 1 := fun x hx => by have := h.2.1 x hx; rw [List.length_cons, hl] at this; omega
    have hf := hr f (by simp)
    have hup : ∀ x ∈ t, up f (dn1 f x) = x := fun x hx => by have := hne x hx; unfold up dn1; split <;> split <;> omega
    have hrp : isP (t.map (dn1 f)) = true := by
      refine isP_true.2 ⟨by rw [List.length_map]; have := h.1; rw [List.length_cons] at this; omega, fun x hx => ?_, ?_⟩
      · obtain ⟨y, hy, rfl⟩ := List.mem_map.1 hx
        have h1 := hr y (by simp [hy])
        have h2 := hne y hy
        rw [List.length_map, hl]
        unfold dn1
        split <;> omega
      · rw [List.nodup_iff_pairwise_ne, List.pairwise_map]
        refine List.Pairwise.imp_of_mem (fun {a b} ha hb hab e => ?_) (List.nodup_iff_pairwise_ne.1 hnd.2)
        have h1 := hup a ha
        rw [e, hup b hb] at h1
        exact hab h1.symm
    have ih := perm_all n (t.map (dn1 f)) (by rw [List.length_map]; exact hl) hrp
    rw [permL]
    refine List.mem_flatMap.2 ⟨f, mem_upTo.2 ⟨hf.1, by have := hf.2; omega⟩, List.mem_map.2 ⟨_, ih, ?_⟩⟩
    unfold behind
    rw [List.map_map]
    congr 1
    conv => rhs; rw [← List.map_id t]
    exact List.map_congr_left fun x hx => hup x hx
theorem mem_clsN {L : List (List Int)} {k : Nat} (hk : k ≤ 6) {x : List Int} : x ∈ clsN L k ↔ isP x = true ∧ x.length = k ∧ avo L x = true := by
  unfold clsN
  rw [List.mem_filter]
  constructor
  · rintro ⟨h1, h2⟩
    have := permL_mem k hk x h1
    exact ⟨this.1, this.2, h2⟩
  · rintro ⟨h1, h2, h3⟩
    exact ⟨perm_all k x h2 h1, h3⟩
theorem mem_all {L : List (List Int)} {n : Nat} (hn : n ≤ 6) {x : List Int} : x ∈ allC L n ↔ isP x = true ∧ x.length ≤ n ∧ avo L x = true := by
  unfold allC
  rw [List.mem_flatMap]
  constructor
  · rintro ⟨k, hk, hx⟩
    have hk := List.mem_range.1 hk
    have := (mem_clsN (by omega)).1 hx
    exact ⟨this.1, by omega, this.2.2⟩
  · rintro ⟨h1, h2, h3⟩
    exact ⟨x.length, List.mem_range.2 (by omega), (mem_clsN (by omega)).2 ⟨h1, rfl, h3⟩⟩
theorem allC_P {L : List (List Int)} {n : Nat} (hn : n ≤ 6) : allP (allC L n) = true := allP_yes fun _ hz => ((mem_all hn).1 hz).1
/-- The basis is told by its class. -/
theorem fine_all {L : List (List Int)} (h : basis L = true) {n : Nat} (hn : n ≤ 6) {p : List Int} (hp : isP p = true) (hpn : p.length ≤ n) : fineU (allC L n) p = decide (p ∈ L) := by
  have hL := fun b hb => (basis_isP h b hb).1
  rw [Bool.eq_iff_iff]
  unfold fineU
  simp only [Bool.and_eq_true, Bool.not_eq_true', decide_eq_false_iff_not, decide_eq_true_eq, List.all_eq_true]
  constructor
  · rintro ⟨h1, h2⟩
    have ha : avo L p = false := by
      cases ha : avo L p with
      | false => rfl
      | true => exact (h1 ((mem_all hn).2 ⟨hp, hpn, ha⟩)).elim
    obtain ⟨b, hb, hh⟩ := avo_not ha
    by_cases e : b = p
    · rw [← e]; exact hb
    · obtain ⟨q, hq, hqb⟩ := low_has hp (hL b hb) hh e
      have h3 := h2 q hq
      unfold okL at h3
      simp only [Bool.or_eq_true, decide_eq_true_eq] at h3
      rcases h3 with h3 | h3
      · have h4 := (hasO_len (low_all hq) (hL b hb) hqb).1
        exact absurd (Nat.le_zero.1 (by omega)) (basis_isP h b hb).2
      · rw [avo_yes.1 ((mem_all hn).1 h3).2.2 b hb] at hqb
        cases hqb
  · intro hpL
    refine ⟨fun hall => ?_, fun q hq => ?_⟩
    · have h1 := ((mem_all hn).1 hall).2.2
      have h2 := hasO_self hp
      rw [avo_yes.1 h1 p hpL] at h2; cases h2
    · unfold okL
      simp only [Bool.or_eq_true, decide_eq_true_eq]
      right
      refine (mem_all hn).2 ⟨low_all hq, by have := low_len hp hq; omega, avo_yes.2 fun b hb => ?_⟩
      cases hh : hasO q b with
      | false => rfl
      | true =>
        have h1 := basis_apart h hb hpL (has_low hp (hL b hb) hq hh)
        have h2 := (hasO_len (low_all hq) (hL b hb) hh).1
        have h3 := low_len hp hq
        rw [h1] at h2
        omega
def chainB : List (List Int) → Bool
  | a :: b :: r => befL a b && chainB (b :: r)
  | _ => true
theorem chain_head : ∀ {l : List (List Int)} {a : List Int}, chainB (a :: l) = true → ∀ b ∈ l, befL a b = true
  | [], _, _, _, hb => by cases hb
  | c :: l, a, h, b, hb => by
    rw [chainB, Bool.and_eq_true] at h
    rcases List.mem_cons.1 hb with rfl | hb
    · exact h.1
    · exact befL_trans h.1 (chain_head h.2 b hb)
theorem chain_asc : ∀ {l : List (List Int)}, chainB l = true → Asc l
  | [], _ => List.Pairwise.nil
  | [a], _ => List.pairwise_singleton _ _
  | a :: b :: l, h => by
    have h1 := h
    rw [chainB, Bool.and_eq_true] at h1
    exact List.Pairwise.cons (fun x hx => chain_head h x hx) (chain_asc h1.2)
theorem permL_chain : ∀ k : Nat, k ≤ 6 → chainB (permL k) = true := by decide +kernel
theorem permL_asc (k : Nat) (hk : k ≤ 6) : (permL k).Pairwise fun a b => befL a b = true := chain_asc (permL_chain k hk)
theorem buK_mem {L : List (List Int)} {x : List Int} : ∀ {k : Nat}, k ≤ 6 → (x ∈ buK L k ↔ isP x = true ∧ 1 ≤ x.length ∧ x.length ≤ k ∧ fineU L x = true)
  | 0, _ => by
    rw [buK]
    constructor
    · intro h; cases h
    · rintro ⟨_, h1, h2, _⟩; omega
  | k + 1, hk => by
    rw [buK, List.mem_append, buK_mem (by omega), List.mem_filter]
    constructor
    · rintro (⟨h1, h2, h3, h4⟩ | ⟨h1, h2⟩)
      · exact ⟨h1, h2, by omega, h4⟩
      · have := permL_mem (k + 1) hk x h1
        exact ⟨this.1, by omega, by omega, h2⟩
    · rintro ⟨h1, h2, h3, h4⟩
      by_cases e : x.length ≤ k
      · exact .inl ⟨h1, h2, e, h4⟩
      · exact .inr ⟨perm_all (k + 1) x (by omega) h1, h4⟩
theorem buK_asc (L : List (List Int)) : ∀ k : Nat, k ≤ 6 → Asc (buK L k)
  | 0, _ => List.Pairwise.nil
  | k + 1, hk => by
    unfold Asc
    rw [buK, List.pairwise_append]
    refine ⟨buK_asc L k (by omega), (permL_asc (k + 1) hk).filter _, fun a ha b hb => ?_⟩
    have h1 := ((buK_mem (by omega)).1 ha).2.2.1
    have h2 := (permL_mem (k + 1) hk b (List.mem_filter.1 hb).1).2
    rw [befL_ne (by omega)]
    exact decide_eq_true (by omega)
/-- The basis is found again. -/
theorem basis_again {L : List (List Int)} (h : basis L = true) {n : Nat} (hn : n ≤ 6) : buR (allC L n) (n : Int) = L.filter fun z => decide (z.length ≤ n) := by
  rw [buR_yes (allC_P hn) hn]
  refine asc_unique (buK_asc _ n hn) ?_ fun x => ?_
  · have h1 := basis_asc h
    unfold Asc at h1 ⊢
    exact h1.filter _
  · rw [buK_mem hn, List.mem_filter, decide_eq_true_eq]
    constructor
    · rintro ⟨h1, _, h3, h4⟩
      rw [fine_all h hn h1 h3] at h4
      exact ⟨of_decide_eq_true h4, h3⟩
    · rintro ⟨h1, h2⟩
      have h3 := basis_isP h x h1
      exact ⟨h3.1, by have := h3.2; omega, h2, by rw [fine_all h hn h3.1 h2]; exact decide_eq_true h1⟩
end Go.Proofs.Ythndeaodpjelgaa


/-
  PLAIN: children (chapter 14): the greatest number put in and taken out again; the levels of the tree of children. Nothing here speaks of the program.
-/

namespace Go.Proofs.Ythndeaodpjelgaa
set_option maxRecDepth 100000

/-- p with its greatest number put in behind the first s places. -/
def chiL (p : List Int) (s : Nat) : List Int := p.take s ++ ((p.length : Int) + 1) :: p.drop s
theorem chiL_perm (p : List Int) (s : Nat) : (chiL p s).Perm (((p.length : Int) + 1) :: p) := by
  unfold chiL
  refine List.perm_middle.trans (List.Perm.cons _ ?_)
  rw [List.take_append_drop]
theorem chiL_length (p : List Int) (s : Nat) : (chiL p s).length = p.length + 1 := by rw [(chiL_perm p s).length_eq, List.length_cons]
theorem chiL_isP {p : List Int} (hp : isP p = true) (h8 : p.length < 8) (s : Nat) : isP (chiL p s) = true := by
  have h := isP_true.1 hp
  refine isP_true.2 ⟨by rw [chiL_length]; omega, fun x hx => ?_, (chiL_perm p s).nodup_iff.2 (List.nodup_cons.2 ⟨fun hm => ?_, h.2.2⟩)⟩
  · rw [chiL_length]
    rcases List.mem_cons.1 ((chiL_perm p s).subset hx) with rfl | hx
    · omega
    · have := h.2.1 x hx; omega
  · have := h.2.1 _ hm; omega
/-- p without its greatest number. -/
def parL (p : List Int) : List Int := p.filter fun x => decide (x < (p.length : Int))
theorem parL_sub (p : List Int) : (parL p).Sublist p := List.filter_sublist
theorem parL_chi {p : List Int} (hp : isP p = true) (s : Nat) : parL (chiL p s) = p := by
  have h := (isP_true.1 hp).2.1
  unfold parL
  rw [chiL_length]
  unfold chiL
  have h1 : ∀ q : List Int, (∀ x ∈ q, x ∈ p) → q.filter (fun x => decide (x < ((p.length + 1 : Nat) : Int))) = q := fun q hq => by
    rw [List.filter_eq_self]
    intro x hx
    have := h x (hq x hx)
    exact decide_eq_true (by omega)
  rw [List.filter_append, List.filter_cons_of_neg (by simp), h1 _ (fun x hx => List.mem_of_mem_take hx), h1 _ (fun x hx => List.mem_of_mem_drop hx), List.take_append_drop]
theorem par_split {p : List Int} (hp : isP p = true) (h0 : p.length ≠ 0) : ∃ a b, p = a ++ (p.length : Int) :: b ∧ parL p = a ++ b := by
  have h := isP_true.1 hp
  obtain ⟨a, b, hab⟩ := List.append_of_mem (isP_has hp (x := (p.length : Int)) (by omega) (by omega))
  refine ⟨a, b, hab, ?_⟩
  have hnd := h.2.2
  rw [hab] at hnd
  have hn := List.nodup_append.1 hnd
  have hb := List.nodup_cons.1 hn.2.1
  have h1 : ∀ x ∈ a ++ b, x < (p.length : Int) := fun x hx => by
    have hm : x ∈ p := by
      rw [hab]
      rcases List.mem_append.1 hx with hx | hx
      · exact List.mem_append_left _ hx
      · exact List.mem_append_right _ (List.mem_cons_of_mem _ hx)
    have hr := h.2.1 x hm
    have hne : x ≠ (p.length : Int) := fun e => by
      rcases List.mem_append.1 hx with hx | hx
      · exact hn.2.2 x hx (p.length : Int) (by simp) e
      · exact hb.1 (e ▸ hx)
    omega
  have h2 : ∀ q : List Int, (∀ x ∈ q, x ∈ a ++ b) → q.filter (fun x => decide (x < (p.length : Int))) = q := fun q hq => by
    rw [List.filter_eq_self]
    exact fun x hx => decide_eq_true (h1 x (hq x hx))
  have h3 : (a ++ (p.length : Int) :: b).filter (fun x => decide (x < (p.length : Int))) = a ++ b := by
    rw [List.filter_append, List.filter_cons_of_neg (by simp), h2 a (fun x hx => List.mem_append_left _ hx), h2 b (fun x hx => List.mem_append_right _ hx)]
  rw [← hab] at h3
  exact h3
theorem parL_length {p : List Int} (hp : isP p = true) (h0 : p.length ≠ 0) : (parL p).length + 1 = p.length := by
  obtain ⟨a, b, h1, h2⟩ := par_split hp h0
  have := congrArg List.length h1
  rw [List.length_append, List.length_cons] at this
  rw [h2, List.length_append]
  omega
theorem parL_isP {p : List Int} (hp : isP p = true) (h0 : p.length ≠ 0) : isP (parL p) = true := by
  have h := isP_true.1 hp
  have hl := parL_length hp h0
  refine isP_true.2 ⟨by have := h.1; omega, fun x hx => ?_, h.2.2.sublist (parL_sub p)⟩
  have h1 := h.2.1 x ((parL_sub p).subset hx)
  have h2 := (List.mem_filter.1 hx).2
  have h3 := of_decide_eq_true h2
  omega
theorem chi_par {p : List Int} (hp : isP p = true) (h0 : p.length ≠ 0) : ∃ s, s ≤ (parL p).length ∧ chiL (parL p) s = p := by
  obtain ⟨a, b, h1, h2⟩ := par_split hp h0
  have hl := parL_length hp h0
  refine ⟨a.length, by rw [h2, List.length_append]; omega, ?_⟩
  unfold chiL
  have e : ((parL p).length : Int) + 1 = (p.length : Int) := by omega
  rw [e, h2, List.take_left, List.drop_left]
  exact h1.symm
theorem chiL_inj {p : List Int} (hp : isP p = true) {s t : Nat} (hs : s ≤ p.length) (ht : t ≤ p.length) (h : chiL p s = chiL p t) : s = t := by
  have hr := (isP_true.1 hp).2.1
  have key : ∀ {s t : Nat}, s < t → t ≤ p.length → chiL p s = chiL p t → False := fun {s t} hst ht h => by
    have h1 : (chiL p s)[s]? = some ((p.length : Int) + 1) := by
      unfold chiL
      rw [List.getElem?_append_right (by rw [List.length_take]; omega), List.length_take, Nat.min_eq_left (by omega), Nat.sub_self]
      rfl
    have h2 : (chiL p t)[s]? = p[s]? := by
      unfold chiL
      rw [List.getElem?_append_left (by rw [List.length_take]; omega), List.getElem?_take_of_lt hst]
    rw [h, h2] at h1
    have := hr _ (List.mem_of_getElem? h1)
    omega
  rcases Nat.lt_trichotomy s t with h1 | h1 | h1
  · exact (key h1 ht h).elim
  · exact h1
  · exact (key h1 hs h.symm).elim
/-! active sites and children -/
def sitesK (L : List (List Int)) (p : List Int) : List Nat := (List.range (p.length + 1)).filter fun s => avo L (chiL p s)
def actOK (L : List (List Int)) (p : List Int) : Bool := inC L p && decide (p.length ≠ 8)
def actR (L : List (List Int)) (p : List Int) : List Int := if actOK L p then (sitesK L p).map (fun s : Nat => (s : Int)) else []
def kidR (L : List (List Int)) (p : List Int) : List (List Int) := if actOK L p then (sitesK L p).map (chiL p) else []
theorem actOK_P {L : List (List Int)} {p : List Int} (h : actOK L p = true) : basis L = true ∧ isP p = true ∧ avo L p = true ∧ p.length < 8 := by
  unfold actOK inC at h
  simp only [Bool.and_eq_true, decide_eq_true_eq] at h
  exact ⟨h.1.1.1, h.1.1.2, h.1.2, by have := isP_le h.1.1.2; omega⟩
theorem mem_kidR {L : List (List Int)} {p x : List Int} : x ∈ kidR L p ↔ actOK L p = true ∧ avo L x = true ∧ ∃ s, s ≤ p.length ∧ chiL p s = x := by
  unfold kidR sitesK
  cases h : actOK L p with
  | false => simp
  | true =>
    rw [if_pos rfl, List.mem_map]
    constructor
    · rintro ⟨s, hs, rfl⟩
      obtain ⟨h1, h2⟩ := List.mem_filter.1 hs
      exact ⟨rfl, h2, s, by have := List.mem_range.1 h1; omega, rfl⟩
    · rintro ⟨_, h2, s, hs, rfl⟩
      exact ⟨s, List.mem_filter.2 ⟨List.mem_range.2 (by omega), h2⟩, rfl⟩
theorem sitesK_le (L : List (List Int)) (p : List Int) : (sitesK L p).length ≤ p.length + 1 := Nat.le_trans (List.length_filter_le _ _) (by rw [List.length_range]; exact Nat.le_refl _)
theorem kidR_len (L : List (List Int)) (p : List Int) : (kidR L p).length = (actR L p).length := by
  unfold kidR actR
  split
  · rw [List.length_map, List.length_map]
  · rfl
theorem kidR_le (L : List (List Int)) (p : List Int) : (kidR L p).length ≤ 8 := by
  unfold kidR
  split
  · rename_i h
    have := (actOK_P h).2.2.2
    have := sitesK_le L p
    rw [List.length_map]; omega
  · simp
/-- A child: a permutation of the class whose parent is p. -/
theorem kidR_facts {L : List (List Int)} {p x : List Int} (h : x ∈ kidR L p) : isP x = true ∧ x.length = p.length + 1 ∧ parL x = p ∧ inC L x = true := by
  obtain ⟨h1, h2, s, hs, rfl⟩ := mem_kidR.1 h
  obtain ⟨a1, a2, a3, a4⟩ := actOK_P h1
  have h3 := chiL_isP a2 a4 s
  refine ⟨h3, chiL_length p s, parL_chi a2 s, ?_⟩
  unfold inC
  rw [a1, h3, h2]; rfl
theorem avo_par {L : List (List Int)} (hL : ∀ b ∈ L, isP b = true) {x : List Int} (hx : isP x = true) (h0 : x.length ≠ 0) (h : avo L x = true) : avo L (parL x) = true := avo_yes.2 fun q hq => by
  have hp := parL_isP hx h0
  cases hh : hasO (parL x) q with
  | false => rfl
  | true =>
    have e := patL_self hp
    have h1 := hasO_pat (s := parL x) hx (hL q hq) (parL_sub x) (by rw [e]; exact hp) (by rw [e]; exact hh)
    rw [avo_yes.1 h q hq] at h1; cases h1
/-! levels -/
def levT (L : List (List Int)) : Nat → List (List Int)
  | 0 => [[]]
  | k + 1 => (levT L k).flatMap (kidR L)
theorem basis_nilIn {L : List (List Int)} (h : basis L = true) : avo L [] = true := avo_yes.2 fun q hq => by
  have h1 := basis_isP h q hq
  cases hh : hasO [] q with
  | false => rfl
  | true =>
    have := (hasO_len (by decide) h1.1 hh).1
    exact absurd (Nat.le_zero.1 this) h1.2
theorem mem_levT {L : List (List Int)} (hL : basis L = true) : ∀ k, k ≤ 6 → ∀ x, x ∈ levT L k ↔ isP x = true ∧ x.length = k ∧ avo L x = true
  | 0, _, x => by
    rw [levT, List.mem_singleton]
    constructor
    · rintro rfl
      exact ⟨by decide, rfl, basis_nilIn hL⟩
    · rintro ⟨_, h, _⟩
      exact List.eq_nil_of_length_eq_zero h
  | k + 1, hk, x => by
    have ih := mem_levT hL k (by omega)
    rw [levT, List.mem_flatMap]
    constructor
    · rintro ⟨p, hp, hx⟩
      obtain ⟨h1, h2, _, _⟩ := kidR_facts hx
      exact ⟨h1, by rw [h2, ((ih p).1 hp).2.1], (mem_kidR.1 hx).2.1⟩
    · rintro ⟨h1, h2, h3⟩
      have h0 : x.length ≠ 0 := by omega
      have hp := parL_isP h1 h0
      have hl := parL_length h1 h0
      have ha := avo_par (fun b hb => (basis_isP hL b hb).1) h1 h0 h3
      obtain ⟨s, hs, hc⟩ := chi_par h1 h0
      refine ⟨parL x, (ih _).2 ⟨hp, by omega, ha⟩, mem_kidR.2 ⟨?_, h3, s, hs, hc⟩⟩
      unfold actOK inC
      rw [hL, hp, ha, decide_eq_true (by omega)]; rfl
theorem kidR_nodup (L : List (List Int)) (p : List Int) : (kidR L p).Nodup := by
  unfold kidR
  split
  · rename_i h
    have hp := (actOK_P h).2.1
    rw [List.nodup_iff_pairwise_ne, List.pairwise_map]
    have h1 : (sitesK L p).Nodup := List.nodup_range.sublist List.filter_sublist
    refine List.Pairwise.imp_of_mem (fun {a b} ha hb hab e => ?_) (List.nodup_iff_pairwise_ne.1 h1)
    have ha := List.mem_range.1 (List.mem_filter.1 ha).1
    have hb := List.mem_range.1 (List.mem_filter.1 hb).1
    exact hab (chiL_inj hp (by omega) (by omega) e)
  · exact List.nodup_nil
theorem levT_nodup (L : List (List Int)) : ∀ k, (levT L k).Nodup
  | 0 => by simp [levT]
  | k + 1 => by
    rw [levT, List.nodup_iff_pairwise_ne, List.pairwise_flatMap]
    refine ⟨fun p _ => List.nodup_iff_pairwise_ne.1 (kidR_nodup L p), List.Pairwise.imp (fun {p q} hpq x hx y hy e => ?_) (List.nodup_iff_pairwise_ne.1 (levT_nodup L k))⟩
    subst e
    exact hpq ((kidR_facts hx).2.2.1.symm.trans (kidR_facts hy).2.2.1)
theorem clsN_nodup (L : List (List Int)) {k : Nat} (hk : k ≤ 6) : (clsN L k).Nodup := by
  unfold clsN
  refine List.Nodup.sublist (List.filter_sublist (l := permL k)) (List.nodup_iff_pairwise_ne.2 (List.Pairwise.imp (fun {a b} h e => ?_) (permL_asc k hk)))
  subst e
  rw [befL_irrefl] at h; cases h
/-- The levels have as many permutations as the class. -/
theorem levT_len {L : List (List Int)} (hL : basis L = true) {k : Nat} (hk : k ≤ 6) : (levT L k).length = (clsN L k).length :=
  (List.perm_ext_iff_of_nodup (levT_nodup L k) (clsN_nodup L hk)).2 (fun x => by rw [mem_levT hL k hk x, mem_clsN hk]) |>.length_eq
theorem levT_le {L : List (List Int)} (hL : basis L = true) {k : Nat} (hk : k ≤ 6) : (levT L k).length ≤ 720 := by
  rw [levT_len hL hk]
  unfold clsN
  exact Nat.le_trans (List.length_filter_le _ _) (permL_small k hk).1
def lszR (L : List (List Int)) (m : Int) : List Int := if basis L = true ∧ 0 ≤ m ∧ m ≤ 6 then (List.range (m.toNat + 1)).map (fun k : Nat => ((levT L k).length : Int)) else []
theorem lsz_cnts (L : List (List Int)) (m : Int) : lszR L m = cntsR L m := by
  unfold lszR cntsR
  split
  · rename_i h
    unfold cntsN
    exact List.map_congr_left fun k hk => by rw [levT_len h.1 (by have := List.mem_range.1 hk; omega)]
  · rfl
/-- How many are without an active site. -/
def leafN (L : List (List Int)) (k : Nat) : Nat := (clsN L k).countP fun p => decide ((sitesK L p).length = 0)
def leafR (L : List (List Int)) (m : Int) : Int := if basis L = true ∧ 0 ≤ m ∧ m ≤ 6 then (leafN L m.toNat : Int) else -1
def chaOK (p : List Int) (m : Int) : Bool := isP p && decide (p.length ≠ 8) && decide (0 ≤ m ∧ m ≤ (p.length : Int))
def chaR (p : List Int) (m : Int) : List Int := if chaOK p m then chiL p m.toNat else []
def parOK (p : List Int) : Bool := isP p && decide (p.length ≠ 0)
def parR (p : List Int) : List Int := if parOK p then parL p else []
end Go.Proofs.Ythndeaodpjelgaa


/-
  PLAIN: how the given side of chapter 14 comes to its answers. Nothing here speaks of the program.
-/

namespace Go.Proofs.Ythndeaodpjelgaa
set_option maxRecDepth 100000

/-- The active sites below k. -/
def sitesP (L : List (List Int)) (p : List Int) (k : Nat) : List Int := ((List.range k).filter fun s => avo L (chiL p s)).map fun s : Nat => (s : Int)
theorem sitesP_zero (L : List (List Int)) (p : List Int) : sitesP L p 0 = [] := rfl
theorem sitesP_yes {L : List (List Int)} {p : List Int} {k : Nat} (h : avo L (chiL p k) = true) : sitesP L p (k + 1) = sitesP L p k ++ [(k : Int)] := by
  unfold sitesP
  rw [List.range_succ, List.filter_append, List.filter_cons_of_pos (p := fun s => avo L (chiL p s)) h, List.filter_nil, List.map_append]
  rfl
theorem sitesP_no {L : List (List Int)} {p : List Int} {k : Nat} (h : avo L (chiL p k) = false) : sitesP L p (k + 1) = sitesP L p k := by
  unfold sitesP
  rw [List.range_succ, List.filter_append, List.filter_cons_of_neg (p := fun s => avo L (chiL p s)) (by rw [h]; simp), List.filter_nil, List.append_nil]
theorem sitesP_le (L : List (List Int)) (p : List Int) (k : Nat) : (sitesP L p k).length ≤ k := by
  unfold sitesP
  rw [List.length_map]
  exact Nat.le_trans (List.length_filter_le _ _) (by rw [List.length_range]; exact Nat.le_refl _)
theorem sitesP_small (L : List (List Int)) (p : List Int) (k : Nat) : ∀ x ∈ sitesP L p k, 0 ≤ x ∧ x < (k : Int) := fun x hx => by
  unfold sitesP at hx
  obtain ⟨s, hs, rfl⟩ := List.mem_map.1 hx
  have := List.mem_range.1 (List.mem_filter.1 hs).1
  omega
theorem sitesP_len (L : List (List Int)) (p : List Int) : (sitesP L p (p.length + 1)).length = (sitesK L p).length := by unfold sitesP; rw [List.length_map]; rfl
theorem actR_yes {L : List (List Int)} {p : List Int} (h : actOK L p = true) : actR L p = sitesP L p (p.length + 1) := by unfold actR; rw [if_pos h]; rfl
theorem actR_no {L : List (List Int)} {p : List Int} (h : actOK L p = false) : actR L p = [] := by unfold actR; rw [if_neg (by simp [h])]
theorem kidR_no {L : List (List Int)} {p : List Int} (h : actOK L p = false) : kidR L p = [] := by unfold kidR; rw [if_neg (by simp [h])]
theorem actR_le (L : List (List Int)) (p : List Int) : (actR L p).length ≤ 8 ∧ ∀ x ∈ actR L p, 0 ≤ x ∧ x ≤ 8 := by
  cases h : actOK L p with
  | false => rw [actR_no h]; simp
  | true =>
    have h8 := (actOK_P h).2.2.2
    rw [actR_yes h]
    exact ⟨by have := sitesP_le L p (p.length + 1); omega, fun x hx => by have := sitesP_small L p (p.length + 1) x hx; omega⟩
/-- The k-th active site and its child. -/
theorem kid_at {L : List (List Int)} {p : List Int} {k : Nat} {z : Int} (h : (actR L p)[k]? = some z) : ∃ s : Nat, z = (s : Int) ∧ s ≤ p.length ∧ p.length < 8 ∧ (kidR L p)[k]? = some (chiL p s) := by
  cases hok : actOK L p with
  | false => rw [actR_no hok] at h; simp at h
  | true =>
    unfold actR at h
    rw [if_pos hok, List.getElem?_map] at h
    cases hs : (sitesK L p)[k]? with
    | none => rw [hs] at h; cases h
    | some s =>
      rw [hs] at h
      cases h
      have h1 := List.mem_of_getElem? hs
      unfold sitesK at h1
      have h2 := List.mem_range.1 (List.mem_filter.1 h1).1
      refine ⟨s, rfl, by omega, (actOK_P hok).2.2.2, ?_⟩
      unfold kidR
      rw [if_pos hok, List.getElem?_map, hs]
      rfl
theorem kid_step {L : List (List Int)} {p : List Int} {k : Nat} {x : List Int} (h : (kidR L p)[k]? = some x) : (kidR L p).take (k + 1) = (kidR L p).take k ++ [x] := by rw [List.take_add_one, h]; rfl
theorem kid_rows (L : List (List Int)) (p : List Int) : (kidR L p).length ≤ 8 ∧ tot (kidR L p) ≤ 64 ∧ ∀ z ∈ kidR L p, isP z = true := by
  have h1 := kidR_le L p
  have h2 : ∀ z ∈ kidR L p, isP z = true := fun z hz => (kidR_facts hz).1
  exact ⟨h1, by have := tot_room 8 _ (fun z hz => isP_le (h2 z hz)); omega, h2⟩
theorem flat_step {X : List (List Int)} {f : List Int → List (List Int)} {k : Nat} {z : List Int} (h : X[k]? = some z) : (X.take (k + 1)).flatMap f = (X.take k).flatMap f ++ f z := by
  rw [List.take_add_one, h, List.flatMap_append]
  simp
theorem lev_next (L : List (List Int)) (k : Nat) : levT L (k + 1) = ((levT L k).take (levT L k).length).flatMap (kidR L) := by rw [List.take_length]; rfl
theorem lev_part {L : List (List Int)} (hL : basis L = true) {k : Nat} (hk : k < 6) (i : Nat) : (((levT L k).take i).flatMap (kidR L)).length ≤ 720 := by
  have h1 := levT_le hL (show k + 1 ≤ 6 by omega)
  rw [levT] at h1
  refine Nat.le_trans ?_ h1
  have e : (levT L k).flatMap (kidR L) = ((levT L k).take i).flatMap (kidR L) ++ ((levT L k).drop i).flatMap (kidR L) := by rw [← List.flatMap_append, List.take_append_drop]
  rw [e, List.length_append]
  omega
theorem lev_isP {L : List (List Int)} (hL : basis L = true) {k : Nat} (hk : k ≤ 6) : ∀ z ∈ levT L k, isP z = true := fun z hz => ((mem_levT hL k hk z).1 hz).1
def lszK (L : List (List Int)) (k : Nat) : List Int := (List.range k).map fun k : Nat => ((levT L k).length : Int)
theorem lszK_step (L : List (List Int)) (k : Nat) : lszK L (k + 1) = lszK L k ++ [((levT L k).length : Int)] := by unfold lszK; rw [List.range_succ, List.map_append]; rfl
theorem lszK_length (L : List (List Int)) (k : Nat) : (lszK L k).length = k := by simp [lszK]
theorem lsz_yes {L : List (List Int)} {k : Nat} (h : basis L = true) (hk : k ≤ 6) : lszR L (k : Int) = lszK L (k + 1) := by unfold lszR; rw [if_pos ⟨h, by omega, by omega⟩, Int.toNat_natCast]; rfl
theorem lsz_no {L : List (List Int)} {m : Int} (h : ¬ (basis L = true ∧ 0 ≤ m ∧ m ≤ 6)) : lszR L m = [] := by unfold lszR; rw [if_neg h]
theorem leaf_yes {L : List (List Int)} {k : Nat} (h : basis L = true) (hk : k ≤ 6) : leafR L (k : Int) = (leafN L k : Int) := by unfold leafR; rw [if_pos ⟨h, by omega, by omega⟩, Int.toNat_natCast]
theorem leaf_no {L : List (List Int)} {m : Int} (h : ¬ (basis L = true ∧ 0 ≤ m ∧ m ≤ 6)) : leafR L m = -1 := by unfold leafR; rw [if_neg h]
/-- How many of the first k are without an active site. -/
def leafK (L : List (List Int)) (X : List (List Int)) (k : Nat) : Nat := (X.take k).countP fun p => decide ((sitesK L p).length = 0)
theorem leafK_step {L X : List (List Int)} {k : Nat} {z : List Int} (h : X[k]? = some z) : leafK L X (k + 1) = leafK L X k + (if (sitesK L z).length = 0 then 1 else 0) := by
  unfold leafK
  rw [List.take_add_one, h, List.countP_append]
  congr 1
  by_cases h0 : (sitesK L z).length = 0
  · rw [if_pos h0, Option.toList_some, List.countP_singleton, if_pos (decide_eq_true h0)]
  · rw [if_neg h0, Option.toList_some, List.countP_singleton, if_neg (by rw [decide_eq_false h0]; simp)]
theorem leafK_all (L : List (List Int)) (k : Nat) : leafK L (clsN L k) (clsN L k).length = leafN L k := by unfold leafK leafN; rw [List.take_length]
theorem leafK_le (L X : List (List Int)) (k : Nat) : leafK L X k ≤ k := by
  unfold leafK
  exact Nat.le_trans List.countP_le_length (by rw [List.length_take]; omega)
theorem chaR_yes {p : List Int} {k : Nat} (hp : isP p = true) (h8 : p.length < 8) (hk : k ≤ p.length) : chaOK p (k : Int) = true ∧ chaR p (k : Int) = chiL p k := by
  have h1 : chaOK p (k : Int) = true := by unfold chaOK; rw [hp, decide_eq_true (by omega), decide_eq_true (by omega)]; rfl
  exact ⟨h1, by unfold chaR; rw [if_pos h1, Int.toNat_natCast]⟩
theorem chaR_no {p : List Int} {m : Int} (h : chaOK p m = false) : chaR p m = [] := by unfold chaR; rw [if_neg (by simp [h])]
theorem chaR_le (p : List Int) (m : Int) : (chaR p m).length ≤ 8 ∧ ∀ x ∈ chaR p m, 1 ≤ x ∧ x ≤ 8 := by
  cases h : chaOK p m with
  | false => rw [chaR_no h]; simp
  | true =>
    have h0 := h
    unfold chaOK at h
    simp only [Bool.and_eq_true, decide_eq_true_eq] at h
    have h8 : p.length < 8 := by have := isP_le h.1.1; omega
    have hp := chiL_isP h.1.1 h8 m.toNat
    unfold chaR
    rw [if_pos h0]
    exact ⟨isP_le hp, fun x hx => by have := (isP_true.1 hp).2.1 x hx; have := isP_le hp; omega⟩
theorem parR_no {p : List Int} (h : parOK p = false) : parR p = [] := by unfold parR; rw [if_neg (by simp [h])]
theorem parR_yes {p : List Int} (h : parOK p = true) : parR p = parL p := by unfold parR; rw [if_pos h]
theorem parR_le (p : List Int) : (parR p).length ≤ 8 ∧ ∀ x ∈ parR p, 1 ≤ x ∧ x ≤ 8 := by
  cases h : parOK p with
  | false => rw [parR_no h]; simp
  | true =>
    have h0 := h
    unfold parOK at h
    simp only [Bool.and_eq_true, decide_eq_true_eq] at h
    have hp := parL_isP h.1 h.2
    rw [parR_yes h0]
    exact ⟨isP_le hp, fun x hx => by have := (isP_true.1 hp).2.1 x hx; have := isP_le hp; omega⟩
/-- The first k numbers without the greatest. -/
def parK (p : List Int) (k : Nat) : List Int := (p.take k).filter fun x => decide (x < (p.length : Int))
theorem parK_yes {p : List Int} {k : Nat} {z : Int} (hz : p[k]? = some z) (h : z < (p.length : Int)) : parK p (k + 1) = parK p k ++ [z] := by
  unfold parK
  rw [List.take_add_one, hz, List.filter_append]
  simp [h]
theorem parK_no {p : List Int} {k : Nat} {z : Int} (hz : p[k]? = some z) (h : ¬ z < (p.length : Int)) : parK p (k + 1) = parK p k := by
  unfold parK
  rw [List.take_add_one, hz, List.filter_append]
  simp [h]
theorem parK_all (p : List Int) : parK p p.length = parL p := by unfold parK parL; rw [List.take_length]
theorem parK_le (p : List Int) (k : Nat) : (parK p k).length ≤ k := by
  unfold parK
  exact Nat.le_trans (List.length_filter_le _ _) (by rw [List.length_take]; omega)
end Go.Proofs.Ythndeaodpjelgaa


/-
  spec.l14Child, ChildAt, ParentOf, l14Sites, ActiveSites, ChildrenOf, by their contracts.
-/

namespace Go.Proofs.Ythndeaodpjelgaa
set_option maxRecDepth 100000
open Go.RowKit

theorem chiL_small {zs : List Int} (h : Small zs) (h8 : zs.length < 8) (s : Nat) : Small (chiL zs s) := fun x hx => by
  rcases List.mem_cons.1 ((chiL_perm zs s).subset hx) with rfl | hx
  · omega
  · exact h x hx
theorem one_new (w : World) (n : Int) : ((w.alloc (.cells #[] 3)).alloc (.cells #[.int .i64 (n + 1)] 3)).drew.cell? ⟨w.heap.size + 1, 0, none⟩ = some (.int .i64 (n + 1)) := by
  have h := (Whole.new (w.alloc (.cells #[] 3)) 3 #[.int .i64 (n + 1)]).cell 0
  rw [World.cell?_drew]
  simp at h ⊢
theorem one_old (w : World) (n : Int) : ((w.alloc (.cells #[.int .i64 (n + 1)] 3)).alloc (.cells #[] 3)).drew.cell? ⟨w.heap.size, 0, none⟩ = some (.int .i64 (n + 1)) := by
  have hW := Whole.new w 3 #[.int .i64 (n + 1)]
  have hal := (Below.refl (w.alloc (.cells #[.int .i64 (n + 1)] 3)).heap.size _).alloc (Nat.le_refl _) (.cells #[] 3)
  rw [World.cell?_drew]
  exact (hal.cell (World.block_lt_of_cell? _ _ (hW.cell 0))).trans (hW.cell 0)
/-- A number's own block, behind the growth of another row. -/
theorem one_kept {W w1 : World} {n : Int} {f g m cap : Nat} (hc : W.cell? ⟨g, 0, none⟩ = some (.int .i64 (n + 1))) (hg : W.grownBy w1 (Value.slice (some ⟨f, 0, none⟩) m cap).ownBlock) (hne : g ≠ f) (hn : 0 ≤ n ∧ n ≤ 8) : Arg w1 w1.heap.size (some ⟨g, 0, none⟩) 1 1 [n + 1] := by
  have hlt := World.block_lt_of_cell? W _ hc
  have h1 := (World.cell?_of_block (a := ⟨g, 0, none⟩) (hg.block g hlt (fun e => hne (Option.some.inj e)))).trans hc
  refine ⟨⟨rfl, fun _ => ⟨_, rfl, World.block_lt_of_cell? w1 _ h1, fun j u hu => ?_⟩⟩, Nat.le_refl _, by omega, Nat.le_refl _, fun y hy => ?_, fun e => by cases e⟩
  · cases j with
    | zero =>
      cases hu
      exact h1
    | succ j => cases hu
  · rw [List.mem_singleton] at hy
    subst hy
    omega
/-- 'append(s, z)' at a step of a region that draws: z lies in a new block. -/
theorem step_append_end {ops : Array Oper} {o : Oper} {a : Act} {W : World} {K : Act → World → Prop} {Q : Exit → Act → World → Prop} {E : Prop} (hgd : o.guard = none) (s x : Operand)
    (ho : o.op = .call { callee := .builtin .append, args := #[s, x], argTypes := #[22, 22] })
    (base m : Nat) (w0 wr : World) (v : Value) (xs : List Int) (z : Int) (hs : a.eval s = v) (hx : a.eval x = .slice (some ⟨wr.heap.size, 0, none⟩) 1 1) (hW : W = wr.alloc (.cells #[.int .i64 z] 3)) (hown : wr.ownsRow base 3 1 v m (i64s xs))
    (hz : -9223372036854775808 ≤ z ∧ z ≤ 9223372036854775807) (hm : m ≤ 1099511627776) (hb : Below base w0 wr) (hbase : base ≤ wr.heap.size)
    (hK : ∀ v' w', w'.ownsRow base 3 1 v' (m + 1) (i64s (xs ++ [z])) → Below base w0 w' → K (a.put o.dst v') w') :
    if Region.wanted o (yielded ops a.tmps) = true then Oper.wp Try.prog o a W K Q else E := by
  subst hW
  have hal := (Below.refl wr.heap.size wr).alloc (Nat.le_refl _) (.cells #[.int .i64 z] 3)
  refine step_append_arg hgd s x ho base (wr.heap.size + 1) m 1 1 w0 v (some ⟨wr.heap.size, 0, none⟩) xs [z] hs hx (own_below hown hal) ?_ hm (hb.trans (hal.mono hbase)) (Nat.le_trans hbase hal.size) fun v' w' h1 h2 _ => hK v' w' h1 h2
  refine ⟨reads_new wr (.int .i64 z) 3, by simp, by omega, Nat.le_refl _, fun y hy => ?_, fun e => by cases e⟩
  rw [List.mem_singleton] at hy
  subst hy
  exact hz
set_option maxHeartbeats 1600000 in
theorem l14child_any (A : Option Addr) (n c B : Nat) (zs : List Int) (k : Nat) (w : World) (h : Arg w B A n c zs) (hn8 : n < 8) (hk : k ≤ n) :
    Calls Try.prog 15 #[.slice A n c, .int .i64 (k : Int)] w (GivesI w (chiL zs k)) := by
  have hl := h.len
  have hcap := h.cap
  have hst := own0 w w.heap.size (Nat.le_refl _)
  have hbel := (Below.refl w.heap.size w).alloc (Nat.le_refl _) (.cells #[] 3)
  have hs0 := hbel.size
  have hw1 : IntKind.i64.wrap ((n : Int) + 1) = (n : Int) + 1 := by rw [IntKind.wrap_i64]; omega
  have hbd0 : (0 : Int) ≤ (k : Int) := by omega
  have hbd1 : (k : Int) ≤ (n : Int) := by omega
  have hbd2 : (k : Int) ≤ (c : Int) := by omega
  have hbd4 : (n : Int) ≤ (c : Int) := by omega
  have HDEF := hide (show chiL zs k = (zs.take k ++ [(n : Int) + 1]) ++ zs.drop k by unfold chiL; rw [hl]; simp)
  cases A with
  | none =>
    obtain rfl : c = 0 := h.nil rfl
    obtain rfl : n = 0 := by omega
    obtain rfl : k = 0 := by omega
    obtain rfl := List.eq_nil_of_length_eq_zero hl
    have hA1 := h
    have hA2 := h
    replace HDEF := hide (show chiL [] 0 = (([] : List Int) ++ [((0 : Nat) : Int) + 1]) ++ [] from rfl)
    have hA1d := (hA1.below hbel).drew
    have hal := (Below.refl (w.alloc (.cells #[] 3)).heap.size (w.alloc (.cells #[] 3))).alloc (Nat.le_refl _) (.cells #[.int .i64 (((0 : Nat) : Int) + 1)] 3)
    have hstB := own_below hst hal
    have hA1B := ((hA1.below hbel).below hal).drew
    have hbelB := below_after hbel hal
    have hs0B := hbelB.size
    have HONE := hide (one_new w ((0 : Nat) : Int))
    have HOLD := hide (one_old w ((0 : Nat) : Int))
    have hal1 := (Below.refl w.heap.size w).alloc (Nat.le_refl _) (.cells #[.int .i64 (((0 : Nat) : Int) + 1)] 3)
    have hal2 := (Below.refl (w.alloc (.cells #[.int .i64 (((0 : Nat) : Int) + 1)] 3)).heap.size (w.alloc (.cells #[.int .i64 (((0 : Nat) : Int) + 1)] 3))).alloc (Nat.le_refl _) (.cells #[] 3)
    have hstC := own0 (w.alloc (.cells #[.int .i64 (((0 : Nat) : Int) + 1)] 3)) w.heap.size hal1.size
    rw [show (w.alloc (.cells #[.int .i64 (((0 : Nat) : Int) + 1)] 3)).heap.size = w.heap.size + 1 by simp] at hstC
    have hA1C := ((hA1.below hal1).below hal2).drew
    have hbelC := below_after hal1 hal2
    have hs0C := hbelC.size
    clear hA1 hl h hal hal1 hal2
    go_enter Try.func15, Try.ntmps15
    go_wp2
    go_region_held3 (fun _ => True) (trivial)
      (first
        | ((refine step_append_arg (by rfl) (.tmp 5) (.tmp 8) (by rfl) w.heap.size B 0 0 0 w _ none [] [] (by rfl) (by rfl) hst hA1d (by omega) hbel.drew hs0 ?_); intro v1 w1 hown1 hb1 hg1; rw [Nat.zero_add, List.nil_append] at hown1; clear hg1 hA1d hst hbel hs0 hstB hA1B hbelB hs0B hstC hA1C hbelC hs0C; have hs1 := hb1.size)
        | ((refine step_append_arg (by rfl) (.tmp 5) (.tmp 8) (by rfl) w.heap.size B 0 0 0 w _ none [] [] (by rfl) (by rfl) hstB hA1B (by omega) hbelB.drew hs0B ?_); intro v1 w1 hown1 hb1 hg1; rw [Nat.zero_add, List.nil_append] at hown1; have hNB := one_kept (unhide HONE) hg1 (by omega) (by omega); clear hg1 hA1d hst hbel hs0 hstB hA1B hbelB hs0B hstC hA1C hbelC hs0C; have hs1 := hb1.size)
        | ((refine step_append_arg (by rfl) (.tmp 5) (.tmp 8) (by rfl) w.heap.size B 0 0 0 w _ none [] [] (by rfl) (by rfl) hstC hA1C (by omega) hbelC.drew hs0C ?_); intro v1 w1 hown1 hb1 hg1; rw [Nat.zero_add, List.nil_append] at hown1; have hNC := one_kept (unhide HOLD) hg1 (by omega) (by omega); clear hg1 hA1d hst hbel hs0 hstB hA1B hbelB hs0B hstC hA1C hbelC hs0C; have hs1 := hb1.size)
        | ((refine step_append_end (by rfl) (.tmp 9) (.tmp 13) (by rfl) w.heap.size 0 w w1 _ [] (((0 : Nat) : Int) + 1) (by rfl) (by rfl) rfl hown1 (by omega) (by omega) hb1 hs1 ?_); intro v2 w2 hown2 hb2; have hA4 := hA2.below hb2; have hs2 := hb2.size; clear hown1 hb1 hs1 hA2)
        | ((refine step_append_arg (by rfl) (.tmp 9) (.tmp 13) (by rfl) w.heap.size _ 0 1 1 w _ (some ⟨w.heap.size + 1, 0, none⟩) [] [((0 : Nat) : Int) + 1] (by rfl) (by rfl) hown1 hNB (by omega) hb1 hs1 ?_); intro v2 w2 hown2 hb2 hg2; have hA4 := hA2.below hb2; have hs2 := hb2.size; clear hown1 hb1 hs1 hA2 hNB hg2)
        | ((refine step_append_arg (by rfl) (.tmp 9) (.tmp 13) (by rfl) w.heap.size _ 0 1 1 w _ (some ⟨w.heap.size, 0, none⟩) [] [((0 : Nat) : Int) + 1] (by rfl) (by rfl) hown1 hNC (by omega) hb1 hs1 ?_); intro v2 w2 hown2 hb2 hg2; have hA4 := hA2.below hb2; have hs2 := hb2.size; clear hown1 hb1 hs1 hA2 hNC hg2)
        | ((refine step_append_arg (by rfl) (.tmp 14) (.tmp 17) (by rfl) w.heap.size B (0 + 1) 0 0 w _ none ([] ++ [((0 : Nat) : Int) + 1]) [] (by rfl) (by rfl) hown2 hA4 (by omega) hb2 hs2 ?_); intro v3 w3 hown3 hb3 hg3))
    all_goals
      have hI : Ints w3 w.heap.size v3 (chiL [] 0) := by rw [unhide HDEF]; exact Ints.of_own hown3
      clear hown3 hg3
      go_wp2
      go_ret
      exact GivesI.mk hI hb3
  | some ad =>
    have hA1 := h.cut (f := 0) (m := k) (by omega)
    rw [show ad.add 0 = ad by unfold Addr.add; split <;> simp_all, Nat.sub_zero, List.drop_zero] at hA1
    by_cases hc : c = k
    · obtain rfl : n = c := by omega
      obtain rfl : n = k := hc
      have hA2 : Arg w B (some ad) 0 0 ([] : List Int) := ⟨⟨rfl, fun h => by omega⟩, h.under, by omega, Nat.le_refl _, fun z hz => by simp at hz, fun h => by cases h⟩
      replace HDEF := hide (show chiL zs n = (zs.take n ++ [(n : Int) + 1]) ++ [] by rw [unhide HDEF, List.drop_of_length_le (by omega)])
      have hA1d := (hA1.below hbel).drew
      have hal := (Below.refl (w.alloc (.cells #[] 3)).heap.size (w.alloc (.cells #[] 3))).alloc (Nat.le_refl _) (.cells #[.int .i64 ((n : Int) + 1)] 3)
      have hstB := own_below hst hal
      have hA1B := ((hA1.below hbel).below hal).drew
      have hbelB := below_after hbel hal
      have hs0B := hbelB.size
      have HONE := hide (one_new w (n : Int))
      have HOLD := hide (one_old w (n : Int))
      have hal1 := (Below.refl w.heap.size w).alloc (Nat.le_refl _) (.cells #[.int .i64 ((n : Int) + 1)] 3)
      have hal2 := (Below.refl (w.alloc (.cells #[.int .i64 ((n : Int) + 1)] 3)).heap.size (w.alloc (.cells #[.int .i64 ((n : Int) + 1)] 3))).alloc (Nat.le_refl _) (.cells #[] 3)
      have hstC := own0 (w.alloc (.cells #[.int .i64 ((n : Int) + 1)] 3)) w.heap.size hal1.size
      rw [show (w.alloc (.cells #[.int .i64 ((n : Int) + 1)] 3)).heap.size = w.heap.size + 1 by simp] at hstC
      have hA1C := ((hA1.below hal1).below hal2).drew
      have hbelC := below_after hal1 hal2
      have hs0C := hbelC.size
      clear hA1 hl h hal hal1 hal2
      go_enter Try.func15, Try.ntmps15
      go_wp2
      go_region_held3 (fun _ => True) (trivial)
        (first
          | ((refine step_append_arg (by rfl) (.tmp 5) (.tmp 8) (by rfl) w.heap.size B 0 n n w _ (some ad) [] (zs.take n) (by rfl) (by rfl) hst hA1d (by omega) hbel.drew hs0 ?_); intro v1 w1 hown1 hb1 hg1; rw [Nat.zero_add, List.nil_append] at hown1; clear hg1 hA1d hst hbel hs0 hstB hA1B hbelB hs0B hstC hA1C hbelC hs0C; have hs1 := hb1.size)
          | ((refine step_append_arg (by rfl) (.tmp 5) (.tmp 8) (by rfl) w.heap.size B 0 n n w _ (some ad) [] (zs.take n) (by rfl) (by rfl) hstB hA1B (by omega) hbelB.drew hs0B ?_); intro v1 w1 hown1 hb1 hg1; rw [Nat.zero_add, List.nil_append] at hown1; have hNB := one_kept (unhide HONE) hg1 (by omega) (by omega); clear hg1 hA1d hst hbel hs0 hstB hA1B hbelB hs0B hstC hA1C hbelC hs0C; have hs1 := hb1.size)
          | ((refine step_append_arg (by rfl) (.tmp 5) (.tmp 8) (by rfl) w.heap.size B 0 n n w _ (some ad) [] (zs.take n) (by rfl) (by rfl) hstC hA1C (by omega) hbelC.drew hs0C ?_); intro v1 w1 hown1 hb1 hg1; rw [Nat.zero_add, List.nil_append] at hown1; have hNC := one_kept (unhide HOLD) hg1 (by omega) (by omega); clear hg1 hA1d hst hbel hs0 hstB hA1B hbelB hs0B hstC hA1C hbelC hs0C; have hs1 := hb1.size)
          | ((refine step_append_end (by rfl) (.tmp 9) (.tmp 13) (by rfl) w.heap.size n w w1 _ (zs.take n) ((n : Int) + 1) (by rfl) (by rfl) rfl hown1 (by omega) (by omega) hb1 hs1 ?_); intro v2 w2 hown2 hb2; have hA4 := hA2.below hb2; have hs2 := hb2.size; clear hown1 hb1 hs1 hA2)
          | ((refine step_append_arg (by rfl) (.tmp 9) (.tmp 13) (by rfl) w.heap.size _ n 1 1 w _ (some ⟨w.heap.size + 1, 0, none⟩) (zs.take n) [(n : Int) + 1] (by rfl) (by rfl) hown1 hNB (by omega) hb1 hs1 ?_); intro v2 w2 hown2 hb2 hg2; have hA4 := hA2.below hb2; have hs2 := hb2.size; clear hown1 hb1 hs1 hA2 hNB hg2)
          | ((refine step_append_arg (by rfl) (.tmp 9) (.tmp 13) (by rfl) w.heap.size _ n 1 1 w _ (some ⟨w.heap.size, 0, none⟩) (zs.take n) [(n : Int) + 1] (by rfl) (by rfl) hown1 hNC (by omega) hb1 hs1 ?_); intro v2 w2 hown2 hb2 hg2; have hA4 := hA2.below hb2; have hs2 := hb2.size; clear hown1 hb1 hs1 hA2 hNC hg2)
          | ((refine step_append_arg (by rfl) (.tmp 14) (.tmp 17) (by rfl) w.heap.size B (n + 1) 0 0 w _ (some ad) ((zs.take n) ++ [(n : Int) + 1]) [] (by rfl) (by rfl) hown2 hA4 (by omega) hb2 hs2 ?_); intro v3 w3 hown3 hb3 hg3))
      all_goals
        have hI : Ints w3 w.heap.size v3 (chiL zs n) := by rw [unhide HDEF]; exact Ints.of_own hown3
        clear hown3 hg3
        go_wp2
        go_ret
        exact GivesI.mk hI hb3
    · have hA2 := h.cut (f := k) (m := n - k) (by omega)
      rw [List.take_of_length_le (by rw [List.length_drop]; omega)] at hA2
      have hA1d := (hA1.below hbel).drew
      have hal := (Below.refl (w.alloc (.cells #[] 3)).heap.size (w.alloc (.cells #[] 3))).alloc (Nat.le_refl _) (.cells #[.int .i64 ((n : Int) + 1)] 3)
      have hstB := own_below hst hal
      have hA1B := ((hA1.below hbel).below hal).drew
      have hbelB := below_after hbel hal
      have hs0B := hbelB.size
      have HONE := hide (one_new w (n : Int))
      have HOLD := hide (one_old w (n : Int))
      have hal1 := (Below.refl w.heap.size w).alloc (Nat.le_refl _) (.cells #[.int .i64 ((n : Int) + 1)] 3)
      have hal2 := (Below.refl (w.alloc (.cells #[.int .i64 ((n : Int) + 1)] 3)).heap.size (w.alloc (.cells #[.int .i64 ((n : Int) + 1)] 3))).alloc (Nat.le_refl _) (.cells #[] 3)
      have hstC := own0 (w.alloc (.cells #[.int .i64 ((n : Int) + 1)] 3)) w.heap.size hal1.size
      rw [show (w.alloc (.cells #[.int .i64 ((n : Int) + 1)] 3)).heap.size = w.heap.size + 1 by simp] at hstC
      have hA1C := ((hA1.below hal1).below hal2).drew
      have hbelC := below_after hal1 hal2
      have hs0C := hbelC.size
      clear hA1 hl h hal hal1 hal2
      go_enter Try.func15, Try.ntmps15
      go_wp2
      go_region_held3 (fun _ => True) (trivial)
        (first
          | ((refine step_append_arg (by rfl) (.tmp 5) (.tmp 8) (by rfl) w.heap.size B 0 k c w _ (some ad) [] (zs.take k) (by rfl) (by rfl) hst hA1d (by omega) hbel.drew hs0 ?_); intro v1 w1 hown1 hb1 hg1; rw [Nat.zero_add, List.nil_append] at hown1; clear hg1 hA1d hst hbel hs0 hstB hA1B hbelB hs0B hstC hA1C hbelC hs0C; have hs1 := hb1.size)
          | ((refine step_append_arg (by rfl) (.tmp 5) (.tmp 8) (by rfl) w.heap.size B 0 k c w _ (some ad) [] (zs.take k) (by rfl) (by rfl) hstB hA1B (by omega) hbelB.drew hs0B ?_); intro v1 w1 hown1 hb1 hg1; rw [Nat.zero_add, List.nil_append] at hown1; have hNB := one_kept (unhide HONE) hg1 (by omega) (by omega); clear hg1 hA1d hst hbel hs0 hstB hA1B hbelB hs0B hstC hA1C hbelC hs0C; have hs1 := hb1.size)
          | ((refine step_append_arg (by rfl) (.tmp 5) (.tmp 8) (by rfl) w.heap.size B 0 k c w _ (some ad) [] (zs.take k) (by rfl) (by rfl) hstC hA1C (by omega) hbelC.drew hs0C ?_); intro v1 w1 hown1 hb1 hg1; rw [Nat.zero_add, List.nil_append] at hown1; have hNC := one_kept (unhide HOLD) hg1 (by omega) (by omega); clear hg1 hA1d hst hbel hs0 hstB hA1B hbelB hs0B hstC hA1C hbelC hs0C; have hs1 := hb1.size)
          | ((refine step_append_end (by rfl) (.tmp 9) (.tmp 13) (by rfl) w.heap.size k w w1 _ (zs.take k) ((n : Int) + 1) (by rfl) (by rfl) rfl hown1 (by omega) (by omega) hb1 hs1 ?_); intro v2 w2 hown2 hb2; have hA4 := hA2.below hb2; have hs2 := hb2.size; clear hown1 hb1 hs1 hA2)
          | ((refine step_append_arg (by rfl) (.tmp 9) (.tmp 13) (by rfl) w.heap.size _ k 1 1 w _ (some ⟨w.heap.size + 1, 0, none⟩) (zs.take k) [(n : Int) + 1] (by rfl) (by rfl) hown1 hNB (by omega) hb1 hs1 ?_); intro v2 w2 hown2 hb2 hg2; have hA4 := hA2.below hb2; have hs2 := hb2.size; clear hown1 hb1 hs1 hA2 hNB hg2)
          | ((refine step_append_arg (by rfl) (.tmp 9) (.tmp 13) (by rfl) w.heap.size _ k 1 1 w _ (some ⟨w.heap.size, 0, none⟩) (zs.take k) [(n : Int) + 1] (by rfl) (by rfl) hown1 hNC (by omega) hb1 hs1 ?_); intro v2 w2 hown2 hb2 hg2; have hA4 := hA2.below hb2; have hs2 := hb2.size; clear hown1 hb1 hs1 hA2 hNC hg2)
          | ((refine step_append_arg (by rfl) (.tmp 14) (.tmp 17) (by rfl) w.heap.size B (k + 1) (n - k) (c - k) w _ (some (ad.add k)) ((zs.take k) ++ [(n : Int) + 1]) (zs.drop k) (by rfl) (by rfl) hown2 hA4 (by omega) hb2 hs2 ?_); intro v3 w3 hown3 hb3 hg3))
      all_goals
        have hI : Ints w3 w.heap.size v3 (chiL zs k) := by rw [unhide HDEF]; exact Ints.of_own hown3
        clear hown3 hg3
        go_wp2
        go_ret
        exact GivesI.mk hI hb3
end Go.Proofs.Ythndeaodpjelgaa


/-
  WORDS: 'out = append(out, list...)', list a list of rows made since. Nothing here speaks of a function of the program.
-/

namespace Go.Proofs.Ythndeaodpjelgaa
set_option maxRecDepth 100000
open Go.RowKit

theorem Inner.join {w : World} {B : Nat} {vs us : List Value} {Z U : List (List Int)} (h : Inner w B vs Z) (k : Inner w B us U) (ha : ∀ x ∈ vs, ∀ y ∈ us, Away x y) : Inner w B (vs ++ us) (Z ++ U) := by
  refine ⟨by simp [h.len, k.len], fun i x ys hx hy => ?_, ?_⟩
  · have hl := h.len
    by_cases hi : i < vs.length
    · rw [List.getElem?_append_left hi] at hx
      rw [List.getElem?_append_left (by omega)] at hy
      exact h.row i x ys hx hy
    · rw [List.getElem?_append_right (by omega)] at hx
      rw [List.getElem?_append_right (by omega), ← hl] at hy
      exact k.row _ x ys hx hy
  · rw [List.pairwise_append]
    exact ⟨h.away, k.away, ha⟩
theorem own_nil {w : World} {B n c : Nat} {A : Option Addr} {e : TypeId} {xs : List Value} (h : w.ownsRow B e 1 (.slice A n c) n xs) : A = none → c = 0 := fun hA => by
  rcases h.2 with ⟨hv, _⟩ | ⟨g, cap, cur, hv, _⟩
  · injection hv
  · injection hv with h1; rw [h1] at hA; cases hA
theorem wpList_append_lists {ops : Array Oper} {rest : List Oper} {o : Oper} {a : Act} {Q : Exit → Act → World → Prop} (hgd : o.guard = none) (s x : Operand)
    (ho : o.op = .call { callee := .builtin .append, args := #[s, x], argTypes := #[37, 37] })
    (B : Nat) (W0 w0 wr : World) (v : Value) (A : Option Addr) (n c : Nat) (U Z : List (List Int)) (hs : a.eval s = v) (hx : a.eval x = .slice A n c)
    (hS : IntsS w0 B v U) (hb0 : Below w0.heap.size w0 wr) (hZ : IntsS wr w0.heap.size (.slice A n c) Z) (hU : U.length ≤ 1048576) (hn : n ≤ 1048576) (hb : Below B W0 wr) (hB : B ≤ w0.heap.size)
    (K : ∀ v' w', IntsS w' B v' (U ++ Z) → Below B W0 w' → wpList Try.prog ops Q rest (a.put o.dst v') w') : wpList Try.prog ops Q (o :: rest) a wr := by
  have hl := hZ.len
  subst hl
  obtain ⟨vs, h1, h2⟩ := hS
  obtain ⟨us, k1, k2⟩ := hZ
  have h3 := own_below h1 hb0
  have h4 := h2.keepI (KeepI.of_below hb0)
  have hr := Reads.of_own_at k1
  refine wpList_append_rows hgd s x ho B wr.heap.size U.length Z.length c W0 v A vs us hs hx h3 hr (own_nil k1) (fun u hu => ?_) (by omega) (by omega) hb (Nat.le_trans hB hb0.size) ?_
  · obtain ⟨z, hz⟩ := k2.mem hu
    obtain ⟨A9, c9, rfl⟩ := hz.slice
    rfl
  · intro v' w' o1 o2 o3 _
    have hk := KeepI.of_grown h3 o3
    refine K v' w' ⟨vs ++ us, by rw [List.length_append]; exact o1, (h4.keepI hk).join ((k2.keepI hk).low hB) fun x hx y hy => ?_⟩ o2
    obtain ⟨z, hz⟩ := k2.mem hy
    exact (h2.away_new hz.since (Nat.le_refl _)) x hx
end Go.Proofs.Ythndeaodpjelgaa
