/-
  Words and contracts that the laws lean on, bundled: ClassU, ClassF, ClassN, ClassC, PermI, ClassB, Sort, Compact, DelM.
-/
import Derived.Test.YtplchjeamooliaaDoorB6
import Derived.Test.YtplchjeamooliaaDoorB5
import Derived.Test.YtplchjeamooliaaDoorB4
import Derived.Test.YtplchjeamooliaaDoorB3
import Derived.Test.YtplchjeamooliaaDoorShelfF
import Derived.Deep.RegionHeld3
import Derived.Lib.SliceRun
import Derived.Laws.BitsLemmas

/-
  spec.l12In and spec.BasisUpTo, by their contracts.
-/

namespace Go.Proofs.YtplchjeamooliaaDoor
set_option maxRecDepth 100000
open Go.RowKit

/-- What BasisUpTo keeps. -/
def okL (L : List (List Int)) (q : List Int) : Bool := decide (q.length = 0) || decide (q ∈ L)
def fineU (L : List (List Int)) (p : List Int) : Bool := !decide (p ∈ L) && (lowR p).all (okL L)
def buK (L : List (List Int)) : Nat → List (List Int)
  | 0 => []
  | k + 1 => buK L k ++ (permL (k + 1)).filter (fineU L)
def buR (L : List (List Int)) (m : Int) : List (List Int) := if allP L = true ∧ 0 ≤ m ∧ m ≤ 6 then buK L m.toNat else []
theorem buR_no {L : List (List Int)} {m : Int} (h : ¬ (allP L = true ∧ 0 ≤ m ∧ m ≤ 6)) : buR L m = [] := by unfold buR; rw [if_neg h]
theorem buR_yes {L : List (List Int)} {k : Nat} (h : allP L = true) (hk : k ≤ 6) : buR L (k : Int) = buK L k := by unfold buR; rw [if_pos ⟨h, by omega, by omega⟩, Int.toNat_natCast]
theorem buK_le (L : List (List Int)) : ∀ k, k ≤ 6 → (buK L k).length ≤ 720 * k
  | 0, _ => Nat.le_refl _
  | k + 1, h => by
    have ih := buK_le L k (by omega)
    have h1 := (permL_small (k + 1) h).1
    have h2 := List.length_filter_le (fineU L) (permL (k + 1))
    rw [buK, List.length_append]
    omega
theorem okL_take {L low : List (List Int)} {i : Nat} {q : List Int} (h : low[i]? = some q) : (low.take (i + 1)).all (okL L) = ((low.take i).all (okL L) && okL L q) := by rw [List.take_add_one, h]; simp
theorem okL_false {L low : List (List Int)} {i : Nat} (h : (low.take i).all (okL L) = false) : low.all (okL L) = false := by
  rw [List.all_eq_false] at h ⊢
  obtain ⟨x, hx, he⟩ := h
  exact ⟨x, List.mem_of_mem_take hx, he⟩
end Go.Proofs.YtplchjeamooliaaDoor


/-
  PLAIN: a class has every pattern of its permutations; its basis is found again. Nothing here speaks of the program.
-/

namespace Go.Proofs.YtplchjeamooliaaDoor
set_option maxRecDepth 100000

theorem short_cut {s p : List Int} (h : s.Sublist p) : s.length < p.length → ∃ i, i < p.length ∧ s.Sublist (cutAt p i) := by
  induction h with
  | slnil => intro h; simp at h
  | cons a h ih => intro _; exact ⟨0, by simp, by simpa [cutAt] using h⟩
  | cons_cons a h ih =>
    intro hl
    simp only [List.length_cons, Nat.add_lt_add_iff_right] at hl
    obtain ⟨i, hi, hs⟩ := ih hl
    exact ⟨i + 1, by simpa using hi, by simpa [cutAt] using hs⟩
theorem cut_sub (p : List Int) (i : Nat) : (cutAt p i).Sublist p := by
  unfold cutAt
  have h := List.take_append_drop i p
  conv => rhs; rw [← h]
  exact (List.Sublist.refl _).append (List.drop_sublist_drop_left p (Nat.le_succ i))
theorem low_mem {p q : List Int} (hp : isP p = true) : q ∈ lowR p ↔ ∃ i, i < p.length ∧ q = patL (cutAt p i) := by rw [lowR_yes hp]; exact lowK_mem
theorem low_len {p q : List Int} (hp : isP p = true) (h : q ∈ lowR p) : q.length + 1 = p.length := by
  obtain ⟨i, hi, rfl⟩ := (low_mem hp).1 h
  rw [patL_length]
  exact cutAt_len hi
/-- What occurs in a pattern of one number less occurs in the whole; what is shorter and occurs, occurs in one of those. -/
theorem has_low {p q b : List Int} (hp : isP p = true) (hb : isP b = true) (hq : q ∈ lowR p) (h : hasO q b = true) : hasO p b = true := by
  have hqp := low_all hq
  obtain ⟨i, hi, rfl⟩ := (low_mem hp).1 hq
  exact hasO_pat hp hb (cut_sub p i) hqp h
theorem low_has {p b : List Int} (hp : isP p = true) (hb : isP b = true) (h : hasO p b = true) (hne : b ≠ p) : ∃ q ∈ lowR p, hasO q b = true := by
  obtain ⟨s, hs, hsb⟩ := (hasO_iff hp hb).1 h
  have hl : s.length < p.length := by
    apply Nat.lt_of_le_of_ne hs.length_le
    intro e
    apply hne
    rw [← hsb, hs.eq_of_length e, patL_self hp]
  obtain ⟨i, hi, hsi⟩ := short_cut hs hl
  have hq : patL (cutAt p i) ∈ lowR p := (low_mem hp).2 ⟨i, hi, rfl⟩
  refine ⟨_, hq, (hasO_iff (low_all hq) hb).2 ⟨s.map fun v => 1 + (cnt (cutAt p i) v : Int), ?_, ?_⟩⟩
  · unfold patL
    exact hsi.map _
  · rw [← hsb]
    refine patL_alike ⟨by simp, fun a c ha hc => ?_⟩
    rw [List.length_map] at ha hc
    have e : ∀ k, k < s.length → at0 (s.map fun v => 1 + (cnt (cutAt p i) v : Int)) k = 1 + (cnt (cutAt p i) (at0 s k) : Int) := fun k hk => at0_of (by rw [List.getElem?_map, at0_some hk]; rfl)
    rw [e a ha, e c hc, cnt_iff (l := cutAt p i) (hsi.subset (at0_mem ha))]
    omega
theorem avo_not {L : List (List Int)} {p : List Int} (h : avo L p = false) : ∃ b ∈ L, hasO p b = true := by
  apply Classical.byContradiction
  intro hno
  have : avo L p = true := avo_yes.2 fun q hq => by
    cases h3 : hasO p q with
    | false => rfl
    | true => exact (hno ⟨q, hq, h3⟩).elim
  rw [h] at this; cases this
theorem avo_low {L : List (List Int)} {p q : List Int} (hL : ∀ b ∈ L, isP b = true) (hp : isP p = true) (ha : avo L p = true) (hq : q ∈ lowR p) : avo L q = true := by
  cases h : avo L q with
  | true => rfl
  | false =>
    obtain ⟨b, hb, hh⟩ := avo_not h
    have := has_low hp (hL b hb) hq hh
    rw [avo_yes.1 ha b hb] at this; cases this
/-- A class has every pattern of its permutations. -/
theorem inC_low {L : List (List Int)} {p q : List Int} (h : inC L p = true) (hq : q ∈ lowR p) : inC L q = true := by
  unfold inC at h ⊢
  simp only [Bool.and_eq_true] at h ⊢
  exact ⟨⟨h.1.1, low_all hq⟩, avo_low (fun b hb => (basis_isP h.1.1 b hb).1) h.1.2 h.2 hq⟩
theorem basis_at {L : List (List Int)} (h : basis L = true) {k : Nat} (hk : k < L.length) : basAt L k = true := by
  unfold basis at h
  simp only [Bool.and_eq_true] at h
  exact List.all_eq_true.1 h.1 k (List.mem_range.2 hk)
theorem basis_step {L : List (List Int)} (h : basis L = true) {k : Nat} (hk : k + 1 < L.length) : befL L[k] L[k + 1] = true := by
  have h1 := basis_at h hk
  rw [basAt_at (List.getElem?_eq_getElem hk)] at h1
  simp only [Bool.and_eq_true, Bool.or_eq_true, decide_eq_true_eq] at h1
  rcases h1.1.2 with h2 | h2
  · omega
  · rwa [Nat.add_sub_cancel, getD_row (List.getElem?_eq_getElem (show k < L.length by omega))] at h2
theorem basis_asc {L : List (List Int)} (h : basis L = true) : Asc L := by
  unfold Asc
  rw [List.pairwise_iff_getElem]
  intro i j hi hj hij
  induction j with
  | zero => omega
  | succ j ih =>
    by_cases e : i = j
    · subst e; exact basis_step h hj
    · exact befL_trans (ih (by omega) (by omega)) (basis_step h hj)
theorem befL_len {x y : List Int} (h : befL x y = true) : x.length ≤ y.length := by
  by_cases e : x.length = y.length
  · omega
  · rw [befL_ne e] at h
    have := of_decide_eq_true h
    omega
theorem basis_apart {L : List (List Int)} (h : basis L = true) {b p : List Int} (hb : b ∈ L) (hp : p ∈ L) (hh : hasO p b = true) : b = p := by
  obtain ⟨i, hi, rfl⟩ := List.getElem_of_mem hb
  obtain ⟨k, hk, rfl⟩ := List.getElem_of_mem hp
  have hip := (basis_isP h _ (List.getElem_mem hi)).1
  have hkp := (basis_isP h _ (List.getElem_mem hk)).1
  have hl := hasO_len hkp hip hh
  rcases Nat.lt_trichotomy i k with hlt | heq | hgt
  · have h1 := basis_at h hk
    rw [basAt_at (List.getElem?_eq_getElem hk)] at h1
    simp only [Bool.and_eq_true] at h1
    have h2 : L[i] ∈ L.take k := List.mem_of_getElem? (i := i) (by rw [List.getElem?_take_of_lt hlt]; exact List.getElem?_eq_getElem hi)
    rw [avo_yes.1 h1.2 _ h2] at hh; cases hh
  · subst heq; rfl
  · have h1 := basis_asc h
    unfold Asc at h1
    have h2 := befL_len (List.pairwise_iff_getElem.1 h1 k i hk hi hgt)
    exact hl.2 (by omega)
/-- The permutations of the class up to a length. -/
def allC (L : List (List Int)) (n : Nat) : List (List Int) := (List.range (n + 1)).flatMap (clsN L)
def dn1 (f x : Int) : Int := if f < x then x - 1 else x
theorem perm_all : ∀ (n : Nat) (p : List Int), p.length = n → isP p = true → p ∈ permL n
  | 0, p, hl, _ => by
    obtain rfl := List.eq_nil_of_length_eq_zero hl
    simp [permL]
  | n + 1, [], hl, _ => by simp at hl
  | n + 1, f :: t, hl, hp => by
    have h := isP_true.1 hp
    rw [List.length_cons, Nat.add_right_cancel_iff] at hl
    have hnd := List.nodup_cons.1 h.2.2
    have hne : ∀ x ∈ t, x ≠ f := fun x hx e => hnd.1 (by rw [← e]; exact hx)
    have hr : ∀ x ∈ f :: t, 1 ≤ x ∧ x ≤ (n : Int) + 1 := fun x hx => by have := h.2.1 x hx; rw [List.length_cons, hl] at this; omega
    have hf := hr f (by simp)
    have hup : ∀ x ∈ t, up f (dn1 f x) = x := fun x hx => by have := hne x hx; unfold up dn1; split <;> split <;> omega
    have hrp : isP (t.map (dn1 f)) = true := by
      refine isP_true.2 ⟨by rw [List.length_map]; have := h.1; rw [List.length_cons] at this; omega, fun x hx => ?_, ?_⟩
      · obtain ⟨y, hy, rfl⟩ := List.mem_map.1 hx
        have h1 := hr y (by simp [hy])
        have h2 := hne y hy
        rw [List.length_map, hl]
        unfold dn1
        split <;> omega
      · rw [List.nodup_iff_pairwise_ne, List.pairwise_map]
        refine List.Pairwise.imp_of_mem (fun {a b} ha hb hab e => ?_) (List.nodup_iff_pairwise_ne.1 hnd.2)
        have h1 := hup a ha
        rw [e, hup b hb] at h1
        exact hab h1.symm
    have ih := perm_all n (t.map (dn1 f)) (by rw [List.length_map]; exact hl) hrp
    rw [permL]
    refine List.mem_flatMap.2 ⟨f, mem_upTo.2 ⟨hf.1, by have := hf.2; omega⟩, List.mem_map.2 ⟨_, ih, ?_⟩⟩
    unfold behind
    rw [List.map_map]
    congr 1
    conv => rhs; rw [← List.map_id t]
    exact List.map_congr_left fun x hx => hup x hx
theorem mem_clsN {L : List (List Int)} {k : Nat} (hk : k ≤ 6) {x : List Int} : x ∈ clsN L k ↔ isP x = true ∧ x.length = k ∧ avo L x = true := by
  unfold clsN
  rw [List.mem_filter]
  constructor
  · rintro ⟨h1, h2⟩
    have := permL_mem k hk x h1
    exact ⟨this.1, this.2, h2⟩
  · rintro ⟨h1, h2, h3⟩
    exact ⟨perm_all k x h2 h1, h3⟩
theorem mem_all {L : List (List Int)} {n : Nat} (hn : n ≤ 6) {x : List Int} : x ∈ allC L n ↔ isP x = true ∧ x.length ≤ n ∧ avo L x = true := by
  unfold allC
  rw [List.mem_flatMap]
  constructor
  · rintro ⟨k, hk, hx⟩
    have hk := List.mem_range.1 hk
    have := (mem_clsN (by omega)).1 hx
    exact ⟨this.1, by omega, this.2.2⟩
  · rintro ⟨h1, h2, h3⟩
    exact ⟨x.length, List.mem_range.2 (by omega), (mem_clsN (by omega)).2 ⟨h1, rfl, h3⟩⟩
theorem allC_P {L : List (List Int)} {n : Nat} (hn : n ≤ 6) : allP (allC L n) = true := allP_yes fun _ hz => ((mem_all hn).1 hz).1
/-- The basis is told by its class. -/
theorem fine_all {L : List (List Int)} (h : basis L = true) {n : Nat} (hn : n ≤ 6) {p : List Int} (hp : isP p = true) (hpn : p.length ≤ n) : fineU (allC L n) p = decide (p ∈ L) := by
  have hL := fun b hb => (basis_isP h b hb).1
  rw [Bool.eq_iff_iff]
  unfold fineU
  simp only [Bool.and_eq_true, Bool.not_eq_true', decide_eq_false_iff_not, decide_eq_true_eq, List.all_eq_true]
  constructor
  · rintro ⟨h1, h2⟩
    have ha : avo L p = false := by
      cases ha : avo L p with
      | false => rfl
      | true => exact (h1 ((mem_all hn).2 ⟨hp, hpn, ha⟩)).elim
    obtain ⟨b, hb, hh⟩ := avo_not ha
    by_cases e : b = p
    · rw [← e]; exact hb
    · obtain ⟨q, hq, hqb⟩ := low_has hp (hL b hb) hh e
      have h3 := h2 q hq
      unfold okL at h3
      simp only [Bool.or_eq_true, decide_eq_true_eq] at h3
      rcases h3 with h3 | h3
      · have h4 := (hasO_len (low_all hq) (hL b hb) hqb).1
        exact absurd (Nat.le_zero.1 (by omega)) (basis_isP h b hb).2
      · rw [avo_yes.1 ((mem_all hn).1 h3).2.2 b hb] at hqb
        cases hqb
  · intro hpL
    refine ⟨fun hall => ?_, fun q hq => ?_⟩
    · have h1 := ((mem_all hn).1 hall).2.2
      have h2 := hasO_self hp
      rw [avo_yes.1 h1 p hpL] at h2; cases h2
    · unfold okL
      simp only [Bool.or_eq_true, decide_eq_true_eq]
      right
      refine (mem_all hn).2 ⟨low_all hq, by have := low_len hp hq; omega, avo_yes.2 fun b hb => ?_⟩
      cases hh : hasO q b with
      | false => rfl
      | true =>
        have h1 := basis_apart h hb hpL (has_low hp (hL b hb) hq hh)
        have h2 := (hasO_len (low_all hq) (hL b hb) hh).1
        have h3 := low_len hp hq
        rw [h1] at h2
        omega
def chainB : List (List Int) → Bool
  | a :: b :: r => befL a b && chainB (b :: r)
  | _ => true
theorem chain_head : ∀ {l : List (List Int)} {a : List Int}, chainB (a :: l) = true → ∀ b ∈ l, befL a b = true
  | [], _, _, _, hb => by cases hb
  | c :: l, a, h, b, hb => by
    rw [chainB, Bool.and_eq_true] at h
    rcases List.mem_cons.1 hb with rfl | hb
    · exact h.1
    · exact befL_trans h.1 (chain_head h.2 b hb)
theorem chain_asc : ∀ {l : List (List Int)}, chainB l = true → Asc l
  | [], _ => List.Pairwise.nil
  | [a], _ => List.pairwise_singleton _ _
  | a :: b :: l, h => by
    have h1 := h
    rw [chainB, Bool.and_eq_true] at h1
    exact List.Pairwise.cons (fun x hx => chain_head h x hx) (chain_asc h1.2)
theorem permL_chain : ∀ k : Nat, k ≤ 6 → chainB (permL k) = true := by decide +kernel
theorem permL_asc (k : Nat) (hk : k ≤ 6) : (permL k).Pairwise fun a b => befL a b = true := chain_asc (permL_chain k hk)
theorem buK_mem {L : List (List Int)} {x : List Int} : ∀ {k : Nat}, k ≤ 6 → (x ∈ buK L k ↔ isP x = true ∧ 1 ≤ x.length ∧ x.length ≤ k ∧ fineU L x = true)
  | 0, _ => by
    rw [buK]
    constructor
    · intro h; cases h
    · rintro ⟨_, h1, h2, _⟩; omega
  | k + 1, hk => by
    rw [buK, List.mem_append, buK_mem (by omega), List.mem_filter]
    constructor
    · rintro (⟨h1, h2, h3, h4⟩ | ⟨h1, h2⟩)
      · exact ⟨h1, h2, by omega, h4⟩
      · have := permL_mem (k + 1) hk x h1
        exact ⟨this.1, by omega, by omega, h2⟩
    · rintro ⟨h1, h2, h3, h4⟩
      by_cases e : x.length ≤ k
      · exact .inl ⟨h1, h2, e, h4⟩
      · exact .inr ⟨perm_all (k + 1) x (by omega) h1, h4⟩
theorem buK_asc (L : List (List Int)) : ∀ k : Nat, k ≤ 6 → Asc (buK L k)
  | 0, _ => List.Pairwise.nil
  | k + 1, hk => by
    unfold Asc
    rw [buK, List.pairwise_append]
    refine ⟨buK_asc L k (by omega), (permL_asc (k + 1) hk).filter _, fun a ha b hb => ?_⟩
    have h1 := ((buK_mem (by omega)).1 ha).2.2.1
    have h2 := (permL_mem (k + 1) hk b (List.mem_filter.1 hb).1).2
    rw [befL_ne (by omega)]
    exact decide_eq_true (by omega)
/-- The basis is found again. -/
theorem basis_again {L : List (List Int)} (h : basis L = true) {n : Nat} (hn : n ≤ 6) : buR (allC L n) (n : Int) = L.filter fun z => decide (z.length ≤ n) := by
  rw [buR_yes (allC_P hn) hn]
  refine asc_unique (buK_asc _ n hn) ?_ fun x => ?_
  · have h1 := basis_asc h
    unfold Asc at h1 ⊢
    exact h1.filter _
  · rw [buK_mem hn, List.mem_filter, decide_eq_true_eq]
    constructor
    · rintro ⟨h1, _, h3, h4⟩
      rw [fine_all h hn h1 h3] at h4
      exact ⟨of_decide_eq_true h4, h3⟩
    · rintro ⟨h1, h2⟩
      have h3 := basis_isP h x h1
      exact ⟨h3.1, by have := h3.2; omega, h2, by rw [fine_all h hn h3.1 h2]; exact decide_eq_true h1⟩
end Go.Proofs.YtplchjeamooliaaDoor


/-
  spec.l12Next, by its contract.
-/

namespace Go.Proofs.YtplchjeamooliaaDoor
set_option maxRecDepth 100000
open Go.RowKit

theorem keep_low2 {B : Nat} {wr w : World} {p q : Addr} {u v : Value} (h1 : wr.cell? p = some u) (h2 : wr.cell? q = some v) (l1 : p.block < B) (l2 : q.block < B) (hb : Below B wr w) : w.cell? p = some u ∧ w.cell? q = some v ∧ Below B wr w := ⟨(hb.cell l1).trans h1, (hb.cell l2).trans h2, hb⟩
/-- The next level, its first k rows whole. -/
def nxtK (L : List (List Int)) (zl : List (List Int)) (K k : Nat) : List (List Int) := (zl.take k).flatMap fun z => (nxAll K z).filter (avo L)
theorem nxtK_zero (L zl : List (List Int)) (K : Nat) : nxtK L zl K 0 = [] := by simp [nxtK]
theorem nxtK_step {L zl : List (List Int)} {K k : Nat} {z : List Int} (h : zl[k]? = some z) : nxtK L zl K (k + 1) = nxtK L zl K k ++ sift (avo L) (nxAll K z) K := by
  unfold nxtK
  rw [List.take_add_one, h, List.flatMap_append]
  unfold sift
  rw [show (nxAll K z).take K = nxAll K z from List.take_of_length_le (by simp [nxAll])]
  simp
theorem nxtK_le (L zl : List (List Int)) (K : Nat) : ∀ k, (nxtK L zl K k).length ≤ k * K
  | 0 => by rw [nxtK_zero]; simp
  | k + 1 => by
    have ih := nxtK_le L zl K k
    by_cases hk : k < zl.length
    · rw [nxtK_step (List.getElem?_eq_getElem hk), List.length_append, Nat.add_mul]
      have := sift_le (avo L) (nxAll K zl[k]) K
      omega
    · have e : nxtK L zl K (k + 1) = nxtK L zl K k := by unfold nxtK; rw [List.take_of_length_le (by omega), List.take_of_length_le (by omega)]
      rw [e]
      exact Nat.le_trans ih (Nat.mul_le_mul_right _ (by omega))
theorem nxAll_at {K m : Nat} {z : List Int} (h : m < K) : (nxAll K z)[m]? = some (nxP z ((m : Int) + 1)) := by unfold nxAll; rw [List.getElem?_map, List.getElem?_range h]; rfl
theorem map_up_step {z : List Int} {v x : Int} {i : Nat} (h : z[i]? = some x) : (z.map (up v)).take i ++ [up v x] = (z.map (up v)).take (i + 1) := (take_snoc_i (by rw [List.getElem?_map, h]; rfl)).symm
end Go.Proofs.YtplchjeamooliaaDoor


/-
  spec.l12Class and spec.ClassCounts, by their contracts.
-/

namespace Go.Proofs.YtplchjeamooliaaDoor
set_option maxRecDepth 100000
open Go.RowKit

theorem listsInfo : (Tryd.prog.info? 22).map (fun i => (i.zero, i.size, i.bytes)) = some (some (.slice none 0 0), 1, 24) := by kernel_rfl
/-- A change of one older block. -/
theorem IntsS.off {w w' : World} {B cb : Nat} {v : Value} {zss : List (List Int)} (h : IntsS w B v zss) (hg : w.grownBy w' (some cb)) (hc : cb < B) : IntsS w' B v zss := by
  obtain ⟨vs, h1, h2⟩ := h
  refine ⟨vs, h1.kept hg ?_, ⟨h2.len, fun i u z hu hz => ?_, h2.away⟩⟩
  · cases hv : v.ownBlock with
    | none => exact .inl rfl
    | some g => exact .inr fun e => by have := (h1.lt g hv).1; injection e with e; omega
  · have hr := h2.row i u z hu hz
    refine Row.kept hr hg ?_
    cases hv : u.ownBlock with
    | none => exact .inl rfl
    | some g => exact .inr fun e => by have := (Row.lt hr g hv).1; injection e with e; omega
/-- Rows of two types lie apart. -/
theorem own_types {w : World} {B B' n m : Nat} {e e' : TypeId} {u v : Value} {xs ys : List Value} (h : w.ownsRow B e 1 v n xs) (k : w.ownsRow B' e' 1 u m ys) (hne : e ≠ e') : v.ownBlock = none ∨ v.ownBlock ≠ u.ownBlock := by
  rcases h.2 with ⟨rfl, _⟩ | ⟨g, cap, cur, rfl, _, hg, _⟩
  · exact .inl rfl
  · refine .inr fun he => ?_
    rcases k.2 with ⟨rfl, _⟩ | ⟨g', cap', cur', rfl, _, hg', _⟩
    · simp [Value.ownBlock] at he
    · simp [Value.ownBlock] at he
      subst he
      rw [hg] at hg'
      injection hg' with hg'
      injection hg' with _ h2
      exact hne h2
theorem nxtK_lev (L : List (List Int)) (k : Nat) : nxtK L (lev L k) (k + 1) (lev L k).length = lev L (k + 1) := by unfold nxtK; rw [List.take_length]; rfl
/-- A list of lists of rows: how long each is. -/
def Heads (w : World) (B : Nat) (v : Value) (n : Nat) (f : Nat → Nat) : Prop := ∃ us : List Value, w.ownsRow B 22 1 v n us ∧ ∀ k, k < n → ∃ A c, us[k]? = some (.slice A (f k) c)
theorem Heads.below {w w' : World} {B n : Nat} {v : Value} {f : Nat → Nat} (h : Heads w B v n f) (hb : Below w.heap.size w w') : Heads w' B v n f := by
  obtain ⟨us, h1, h2⟩ := h
  exact ⟨us, own_below h1 hb, h2⟩
/-- The lengths of the levels. -/
def cntsN (L : List (List Int)) (k : Nat) : List Int := (List.range k).map fun j => ((clsN L j).length : Int)
theorem cntsN_step (L : List (List Int)) (k : Nat) : cntsN L (k + 1) = cntsN L k ++ [((clsN L k).length : Int)] := by unfold cntsN; rw [List.range_succ, List.map_append]; rfl
theorem cntsN_length (L : List (List Int)) (k : Nat) : (cntsN L k).length = k := by simp [cntsN]
def cntsR (L : List (List Int)) (m : Int) : List Int := if basis L = true ∧ 0 ≤ m ∧ m ≤ 6 then cntsN L (m.toNat + 1) else []
theorem cntsR_no {L : List (List Int)} {m : Int} (h : ¬ (basis L = true ∧ 0 ≤ m ∧ m ≤ 6)) : cntsR L m = [] := by unfold cntsR; rw [if_neg h]
theorem cntsR_yes {L : List (List Int)} {k : Nat} (h : basis L = true) (hk : k ≤ 6) : cntsR L (k : Int) = cntsN L (k + 1) := by unfold cntsR; rw [if_pos ⟨h, by omega, by omega⟩, Int.toNat_natCast]
theorem cntsR_le (L : List (List Int)) (m : Int) : (cntsR L m).length ≤ 7 := by
  by_cases h : basis L = true ∧ 0 ≤ m ∧ m ≤ 6
  · unfold cntsR; rw [if_pos h, cntsN_length]; omega
  · rw [cntsR_no h]; simp
end Go.Proofs.YtplchjeamooliaaDoor


/-
  PLAIN: a permutation is parsed from its text, is undone by its inverse, is its own pattern.
-/

namespace Go.Proofs.YtplchjeamooliaaDoor
set_option maxRecDepth 100000

theorem comp_inv {p : List Int} (h : isP p = true) : compOK p (invL p) = true ∧ compR p (invL p) = upTo p.length := by
  have hok := compOK_yes h (invL_isP h) (invL_length p).symm
  refine ⟨hok, ?_⟩
  rw [compR_yes hok, invL_length]
  refine List.ext_getElem? fun j => ?_
  by_cases hj : j < p.length
  · obtain ⟨i, hi, h1, h2⟩ := invL_get h hj
    rw [compL_at hj h2 (y := (j : Int) + 1) (by rw [show ((i : Int) + 1).toNat - 1 = i by omega]; exact h1)]
    unfold upTo
    rw [List.getElem?_map, List.getElem?_range hj]
    rfl
  · rw [List.getElem?_eq_none (by rw [compL_length]; omega), List.getElem?_eq_none (by rw [upTo_length]; omega)]
theorem invR_inv {p : List Int} (h : isP p = true) : invR p = invL p := by rw [invR_yes h]; rfl
theorem pat_self {p : List Int} (h : isP p = true) : patOK p = true ∧ patR p = p := by
  have hok := patOK_yes (isP_le h) (isP_true.1 h).2.2
  refine ⟨hok, ?_⟩
  rw [patR_yes hok]
  unfold patL
  refine (List.map_congr_left fun v hv => ?_).trans (List.map_id _)
  have := cnt_isP h hv
  simp only [id]; omega
theorem nums_text {p : List Int} (h : isP p = true) : tnums ⟨(textL p).toArray⟩ = p := by
  unfold tnums textL
  rw [List.map_map]
  refine (List.map_congr_left fun z hz => ?_).trans (List.map_id _)
  have hr := (isP_true.1 h).2.1 z hz
  have h8 := isP_le h
  simp only [Function.comp, id, dgt]
  rw [UInt8.toNat_ofNat']
  omega
theorem pp_text (p : List Int) : ppOK (ptext p) = isP p ∧ (isP p = true → ppR (ptext p) = p) := by
  cases h : isP p with
  | false =>
    rw [ptext_no h]
    refine ⟨?_, fun e => by cases e⟩
    exact ppOK_none (by decide) rfl
  | true =>
    by_cases h0 : p.length = 0
    · rw [ptext_nil h h0, List.eq_nil_of_length_eq_zero h0]
      exact ⟨ppOK_dash, fun _ => ppR_dash⟩
    · have hn := nums_text h
      rw [ptext_yes h h0]
      have hne : (⟨(textL p).toArray⟩ : ByteArray) ≠ ⟨#[45]⟩ := fun e => by
        rw [e] at hn
        have h1 : p = [-3] := by rw [← hn]; decide
        rw [h1] at h
        revert h
        decide
      have hsz : 0 < (⟨(textL p).toArray⟩ : ByteArray).size := by
        rw [← tnums_length, hn]; omega
      have hok : ppOK ⟨(textL p).toArray⟩ = true := by rw [ppOK_else hne hsz, hn, h]
      exact ⟨hok, fun _ => by rw [ppR_yes hne hok, hn]⟩
theorem ptext_size (p : List Int) : (ptext p).size ≤ 8 := by
  cases h : isP p with
  | false => rw [ptext_no h]; decide
  | true =>
    by_cases h0 : p.length = 0
    · rw [ptext_nil h h0]; decide
    · rw [ptext_yes h h0]
      show (textL p).toArray.size ≤ 8
      rw [List.size_toArray, textL_length]
      exact isP_le h
end Go.Proofs.YtplchjeamooliaaDoor


/-
  PLAIN: the ways of impl's chapter 12: a basis as the order leaves it, a class by the lowers of its permutations, a basis by its class. Nothing here speaks of the program.
-/

namespace Go.Proofs.YtplchjeamooliaaDoor
set_option maxRecDepth 100000

/-! MakeBasis -/
theorem mkK_mono (Z : List (List Int)) (k : Nat) : ∀ j, (mkK Z k).length ≤ (mkK Z (k + j)).length
  | 0 => Nat.le_refl _
  | j + 1 => by
    refine Nat.le_trans (mkK_mono Z k j) ?_
    rw [show k + (j + 1) = (k + j) + 1 by omega, mkK]
    split
    · rw [List.length_append]; omega
    · exact Nat.le_refl _
theorem mkK_sub (Z : List (List Int)) : ∀ k, k ≤ Z.length → (mkK Z k).Sublist (Z.take k)
  | 0, _ => by simp [mkK]
  | k + 1, hk => by
    have ih := mkK_sub Z k (by omega)
    have h1 : Z[k]? = some (Z.getD k []) := by rw [List.getD_eq_getElem?_getD, List.getElem?_eq_getElem (by omega)]; rfl
    rw [mkK, List.take_add_one, h1]
    split
    · exact ih.append (List.Sublist.refl _)
    · exact ih.trans (List.sublist_append_left _ _)
/-- Nothing of the list occurs in what comes behind it. -/
def Apart (U : List (List Int)) : Prop := ∀ k z, U[k]? = some z → avo (U.take k) z = true
theorem mkK_apart (Z : List (List Int)) : ∀ k, Apart (mkK Z k)
  | 0 => fun k z h => by simp [mkK] at h
  | k + 1 => fun i z h => by
    have ih := mkK_apart Z k
    rw [mkK] at h ⊢
    split at h
    · rename_i ha
      rw [if_pos ha]
      by_cases hi : i < (mkK Z k).length
      · rw [List.getElem?_append_left hi] at h
        rw [List.take_append_of_le_length (by omega)]
        exact ih i z h
      · rw [List.getElem?_append_right (by omega)] at h
        have h0 : i - (mkK Z k).length = 0 := by
          have := (List.getElem?_eq_some_iff.1 h).1
          simp at this
          omega
        rw [h0] at h
        simp at h
        subst h
        rw [show i = (mkK Z k).length by omega, List.take_append_of_le_length (Nat.le_refl _), List.take_length]
        exact ha
    · rename_i ha
      rw [if_neg ha]
      exact ih i z h
theorem ordR_asc (L : List (List Int)) : Asc (ordR L) := by
  unfold ordR
  split
  · exact ordL_asc _ _
  · exact List.Pairwise.nil
theorem ordR_iff {L : List (List Int)} (h : allP L = true) {x : List Int} : x ∈ ordR L ↔ x ∈ L := by rw [ordR_yes h, ordL_mem, List.take_length]
theorem mkO_asc (L : List (List Int)) : Asc (mkO L) := by
  have h := mkK_sub (ordR L) (ordR L).length (Nat.le_refl _)
  rw [List.take_length] at h
  exact List.Pairwise.sublist h (ordR_asc L)
theorem mkO_mem {L : List (List Int)} {x : List Int} (h : x ∈ mkO L) : x ∈ ordR L := mkK_mem _ (Nat.le_refl _) x h
theorem basis_of {U : List (List Int)} (hP : ∀ z ∈ U, isP z = true ∧ z.length ≠ 0) (hA : Asc U) (hp : Apart U) (h8 : U.length ≤ 8) : basis U = true := by
  unfold basis
  rw [decide_eq_true h8, Bool.and_true, List.all_eq_true]
  intro k hk
  have hk := List.mem_range.1 hk
  have hz : U[k]? = some U[k] := List.getElem?_eq_getElem hk
  have h1 := hP _ (List.getElem_mem hk)
  rw [basAt_at hz, h1.1, decide_eq_true h1.2, hp k _ hz, Bool.true_and, Bool.true_and, Bool.and_true, Bool.or_eq_true, decide_eq_true_eq]
  by_cases h0 : k = 0
  · exact .inl h0
  · obtain ⟨a, rfl⟩ : ∃ a, k = a + 1 := ⟨k - 1, by omega⟩
    right
    rw [Nat.add_sub_cancel, getD_row (List.getElem?_eq_getElem (show a < U.length by omega))]
    unfold Asc at hA
    exact List.pairwise_iff_getElem.1 hA a (a + 1) (by omega) hk (by omega)
/-- What MakeBasis turns away at once. -/
def badB (p : List Int) : Bool := !isP p || decide (p.length = 0)
theorem badB_no {p : List Int} (h : badB p = false) : isP p = true ∧ p.length ≠ 0 := by
  unfold badB at h
  simp only [Bool.or_eq_false_iff, Bool.not_eq_false', decide_eq_false_iff_not] at h
  exact h
theorem any_bad_no {L : List (List Int)} (h : L.any badB = false) : ∀ z ∈ L, isP z = true ∧ z.length ≠ 0 := fun z hz => by
  rw [List.any_eq_false] at h
  have := h z hz
  exact badB_no (by cases hb : badB z <;> simp_all)
theorem befL_nil {x : List Int} (h : befL x [] = true) : False := by
  have h1 := befL_len h
  obtain rfl := List.eq_nil_of_length_eq_zero (Nat.le_zero.1 h1)
  rw [befL_irrefl] at h
  cases h
theorem mkOK_bad {L : List (List Int)} (h : L.any badB = true) : mkOK L = false := by
  unfold mkOK
  cases hp : allP L with
  | false => rfl
  | true =>
    rw [Bool.true_and]
    rw [List.any_eq_true] at h
    obtain ⟨z, hz, hb⟩ := h
    have hzp := allP_at hp hz
    unfold badB at hb
    rw [hzp] at hb
    simp at hb
    subst hb
    have hm : ([] : List Int) ∈ ordR L := (ordR_iff hp).2 hz
    have hA := ordR_asc L
    unfold Asc at hA
    obtain ⟨i, hi, he⟩ := List.getElem_of_mem hm
    have h0 : i = 0 := by
      apply Classical.byContradiction
      intro hne
      have h1 := List.pairwise_iff_getElem.1 hA 0 i (by omega) hi (by omega)
      rw [he] at h1
      exact befL_nil h1
    subst h0
    have h1 : mkK (ordR L) 1 = [[]] := by
      rw [mkK_yes (z := []) (by rw [List.getElem?_eq_getElem hi, he]) (by rw [mkK]; rfl)]
      rfl
    have h2 : ∀ j, ([] : List Int) ∈ mkK (ordR L) (1 + j) := by
      intro j
      induction j with
      | zero => rw [h1]; simp
      | succ j ih =>
        rw [show 1 + (j + 1) = (1 + j) + 1 by omega, mkK]
        split
        · exact List.mem_append_left _ ih
        · exact ih
    have h3 := h2 ((ordR L).length - 1)
    rw [show 1 + ((ordR L).length - 1) = (ordR L).length by omega] at h3
    cases hb : basis (mkO L) with
    | false => rfl
    | true => exact absurd rfl (basis_isP hb [] h3).2
theorem mkOK_many {L : List (List Int)} {k : Nat} (hk : k ≤ (ordR L).length) (h : 8 < (mkK (ordR L) k).length) : mkOK L = false := by
  unfold mkOK
  cases hb : basis (mkO L) with
  | false => rw [Bool.and_false]
  | true =>
    have h1 := basis_le hb
    have h2 := mkK_mono (ordR L) k ((ordR L).length - k)
    rw [show k + ((ordR L).length - k) = (ordR L).length by omega] at h2
    unfold mkO at h1
    omega
theorem mkOK_good {L : List (List Int)} (h : L.any badB = false) (h8 : (mkO L).length ≤ 8) : mkOK L = true := by
  have h1 := any_bad_no h
  have hp : allP L = true := allP_yes fun z hz => (h1 z hz).1
  unfold mkOK
  rw [hp, Bool.true_and]
  refine basis_of (fun z hz => h1 z ?_) (mkO_asc L) (mkK_apart _ _) h8
  exact (ordR_iff hp).1 (mkO_mem hz)
/-! IsBasis -/
theorem ord_basis {L : List (List Int)} (h : basis L = true) : allP L = true ∧ ordR L = L := by
  have hp : allP L = true := allP_yes fun z hz => (basis_isP h z hz).1
  exact ⟨hp, asc_unique (ordR_asc L) (basis_asc h) fun x => ordR_iff hp⟩
theorem mkK_take {L : List (List Int)} (h : basis L = true) : ∀ k, k ≤ L.length → mkK L k = L.take k
  | 0, _ => by simp [mkK]
  | k + 1, hk => by
    have ih := mkK_take h k (by omega)
    have hz : L[k]? = some L[k] := List.getElem?_eq_getElem (by omega)
    have h1 := basis_at h (show k < L.length by omega)
    rw [basAt_at hz] at h1
    simp only [Bool.and_eq_true] at h1
    rw [mkK_yes hz (by rw [ih]; exact h1.2), ih, List.take_add_one, hz]
    rfl
theorem mk_basis {L : List (List Int)} (h : basis L = true) : mkO L = L ∧ mkOK L = true := by
  obtain ⟨h1, h2⟩ := ord_basis h
  have h3 : mkO L = L := by
    unfold mkO
    rw [h2, mkK_take h L.length (Nat.le_refl _), List.take_length]
  exact ⟨h3, by unfold mkOK; rw [h1, h3, h]; rfl⟩
theorem basis_made (L : List (List Int)) : basis L = (mkOK L && decide (L = mkR L)) := by
  cases hb : basis L with
  | true =>
    obtain ⟨h1, h2⟩ := mk_basis hb
    rw [mkR_yes h2, h1, h2]
    simp
  | false =>
    cases hk : mkOK L with
    | false => rfl
    | true =>
      rw [Bool.true_and, mkR_yes hk]
      symm
      rw [decide_eq_false_iff_not]
      intro e
      unfold mkOK at hk
      rw [← e, hb, Bool.and_false] at hk
      cases hk
/-! classUpTo -/
def allU (n : Nat) : List (List Int) := (List.range (n + 1)).flatMap permL
theorem mem_allU {n : Nat} (hn : n ≤ 6) {x : List Int} : x ∈ allU n ↔ isP x = true ∧ x.length ≤ n := by
  unfold allU
  rw [List.mem_flatMap]
  constructor
  · rintro ⟨k, hk, hx⟩
    have hk := List.mem_range.1 hk
    have := permL_mem k (by omega) x hx
    exact ⟨this.1, by omega⟩
  · rintro ⟨h1, h2⟩
    exact ⟨x.length, List.mem_range.2 (by omega), perm_all _ x rfl h1⟩
theorem allU_succ (n : Nat) : allU (n + 1) = allU n ++ permL (n + 1) := by unfold allU; rw [List.range_succ (n := n + 1), List.flatMap_append]; simp
theorem allU_asc : ∀ n : Nat, n ≤ 6 → Asc (allU n)
  | 0, _ => by
    have : allU 0 = [[]] := rfl
    rw [this]
    exact List.pairwise_singleton _ _
  | n + 1, hn => by
    unfold Asc
    rw [allU_succ, List.pairwise_append]
    refine ⟨allU_asc n (by omega), permL_asc (n + 1) hn, fun a ha b hb => ?_⟩
    have h1 := ((mem_allU (by omega)).1 ha).2
    have h2 := (permL_mem (n + 1) hn b hb).2
    rw [befL_ne (by omega)]
    exact decide_eq_true (by omega)
theorem allU_len : ∀ n : Nat, n ≤ 6 → (allU n).length ≤ 874 := by decide +kernel
theorem asc_take {Z : List (List Int)} (h : Asc Z) {k : Nat} {p q : List Int} (hp : Z[k]? = some p) (hq : q ∈ Z) (hb : befL q p = true) : q ∈ Z.take k := by
  obtain ⟨i, hi, rfl⟩ := List.getElem_of_mem hq
  obtain ⟨hk, rfl⟩ := List.getElem?_eq_some_iff.1 hp
  unfold Asc at h
  have hik : i < k := by
    apply Classical.byContradiction
    intro hno
    rcases Nat.lt_or_ge k i with h1 | h1
    · have h2 := List.pairwise_iff_getElem.1 h k i hk hi h1
      rw [befL_asymm h2] at hb; cases hb
    · obtain rfl : i = k := by omega
      rw [befL_irrefl] at hb; cases hb
  exact List.mem_of_getElem? (i := i) (by rw [List.getElem?_take_of_lt hik]; exact List.getElem?_eq_getElem hi)
/-- Every lower of p is in the list. -/
def lowIn (S : List (List Int)) (p : List Int) : Bool := (lowR p).all fun q => decide (q ∈ S)
theorem low_bef {p q : List Int} (hp : isP p = true) (h : q ∈ lowR p) : befL q p = true := by
  have h1 := low_len hp h
  rw [befL_ne (by omega)]
  exact decide_eq_true (by omega)
theorem avo_lows {L : List (List Int)} (hL : ∀ b ∈ L, isP b = true) {p : List Int} (hp : isP p = true) : avo L p = (!decide (p ∈ L) && (lowR p).all (avo L)) := by
  rw [Bool.eq_iff_iff]
  simp only [Bool.and_eq_true, Bool.not_eq_true', decide_eq_false_iff_not, List.all_eq_true]
  constructor
  · intro h
    refine ⟨fun hm => ?_, fun q hq => avo_low hL hp h hq⟩
    have h1 := avo_yes.1 h p hm
    rw [hasO_self hp] at h1; cases h1
  · rintro ⟨h1, h2⟩
    cases h : avo L p with
    | true => rfl
    | false =>
      obtain ⟨b, hb, hh⟩ := avo_not h
      obtain ⟨q, hq, hqb⟩ := low_has hp (hL b hb) hh (fun e => h1 (e ▸ hb))
      rw [avo_yes.1 (h2 q hq) b hb] at hqb
      cases hqb
/-- What classUpTo asks of the k-th permutation. -/
theorem cls_step {L : List (List Int)} (hL : ∀ b ∈ L, isP b = true) {n k : Nat} (hn : n ≤ 6) {p : List Int} (hp : (allU n)[k]? = some p) : avo L p = (!decide (p ∈ L) && lowIn (sift (avo L) (allU n) k) p) := by
  obtain ⟨h1, h2⟩ := (mem_allU hn).1 (List.mem_of_getElem? hp)
  rw [avo_lows hL h1]
  congr 1
  unfold lowIn
  rw [Bool.eq_iff_iff, List.all_eq_true, List.all_eq_true]
  refine forall_congr' fun q => forall_congr' fun hq => ?_
  rw [decide_eq_true_eq]
  unfold sift
  rw [List.mem_filter]
  constructor
  · intro h
    exact ⟨asc_take (allU_asc n hn) hp ((mem_allU hn).2 ⟨low_all hq, by have := low_len h1 hq; omega⟩) (low_bef h1 hq), h⟩
  · exact fun h => h.2
def clsU (L : List (List Int)) (n : Nat) : List (List Int) := (allU n).filter (avo L)
theorem clsU_sift (L : List (List Int)) (n : Nat) : clsU L n = sift (avo L) (allU n) (allU n).length := by rw [sift_all]; rfl
theorem clsU_all (L : List (List Int)) (n : Nat) : clsU L n = allC L n := by
  unfold clsU allU allC
  rw [List.filter_flatMap]
  rfl
theorem clsU_mem {L : List (List Int)} {n : Nat} (hn : n ≤ 6) {x : List Int} (h : x ∈ clsU L n) : isP x = true ∧ x.length ≤ n := by
  unfold clsU at h
  exact (mem_allU hn).1 (List.mem_filter.1 h).1
theorem clsU_len (L : List (List Int)) {n : Nat} (hn : n ≤ 6) : (clsU L n).length ≤ 874 := Nat.le_trans (List.length_filter_le _ _) (allU_len n hn)
/-! ClassOf -/
theorem clsU_top (L : List (List Int)) {n : Nat} (hn : n ≤ 6) : (clsU L n).filter (fun p => !decide (p.length < n)) = clsN L n := by
  unfold clsU clsN
  rw [List.filter_filter]
  have h0 : ∀ m, m ≤ n → (∀ x ∈ allU m, x.length < n) → (allU m).filter (fun a => !decide (a.length < n) && avo L a) = [] := by
    intro m hm h
    rw [List.filter_eq_nil_iff]
    intro x hx
    rw [decide_eq_true (h x hx)]
    simp
  have h1 : ∀ x ∈ permL n, (!decide (x.length < n) && avo L x) = avo L x := fun x hx => by
    rw [decide_eq_false (by have := (permL_mem n hn x hx).2; omega)]
    rfl
  cases n with
  | zero =>
    rw [show allU 0 = permL 0 from rfl]
    exact List.filter_congr h1
  | succ n =>
    rw [allU_succ, List.filter_append, h0 n (by omega) (fun x hx => by have := ((mem_allU (by omega)).1 hx).2; omega), List.nil_append]
    exact List.filter_congr h1
/-! ClassCounts -/
def tallyU (Z : List (List Int)) (n k : Nat) : List Int := (List.range (n + 1)).map fun j => (((Z.take k).countP fun p => decide (p.length = j) : Nat) : Int)
theorem tallyU_length (Z : List (List Int)) (n k : Nat) : (tallyU Z n k).length = n + 1 := by simp [tallyU]
theorem tallyU_at {Z : List (List Int)} {n k j : Nat} (h : j ≤ n) : (tallyU Z n k)[j]? = some (((Z.take k).countP fun p => decide (p.length = j) : Nat) : Int) := by
  unfold tallyU
  rw [List.getElem?_map, List.getElem?_range (by omega)]
  rfl
theorem tallyU_zero (Z : List (List Int)) (n : Nat) : tallyU Z n 0 = List.replicate (n + 1) 0 := by
  unfold tallyU
  apply List.ext_getElem?
  intro j
  by_cases hj : j < n + 1
  · rw [List.getElem?_map, List.getElem?_range hj, List.getElem?_replicate, if_pos hj]
    simp
  · rw [List.getElem?_eq_none (by simp; omega), List.getElem?_eq_none (by simp; omega)]
theorem tallyU_step {Z : List (List Int)} {n k : Nat} {z : List Int} (hz : Z[k]? = some z) :
    tallyU Z n (k + 1) = (tallyU Z n k).set z.length ((((Z.take k).countP fun p => decide (p.length = z.length) : Nat) : Int) + 1) := by
  apply List.ext_getElem?
  intro j
  by_cases hj : j < n + 1
  · rw [List.getElem?_set, tallyU_at (by omega)]
    rw [List.take_add_one, hz, Option.toList_some, List.countP_append]
    by_cases e : z.length = j
    · subst e
      rw [if_pos rfl, if_pos (by rw [tallyU_length]; omega)]
      simp
    · rw [if_neg e, tallyU_at (by omega)]
      simp [e]
  · rw [List.getElem?_eq_none (by rw [tallyU_length]; omega), List.getElem?_eq_none (by rw [List.length_set, tallyU_length]; omega)]
theorem tallyU_all (L : List (List Int)) {n : Nat} (hn : n ≤ 6) : tallyU (clsU L n) n (clsU L n).length = cntsN L (n + 1) := by
  unfold tallyU cntsN
  rw [List.take_length]
  refine List.map_congr_left fun j hj => ?_
  have hj := List.mem_range.1 hj
  congr 1
  rw [clsU_all]
  unfold allC
  rw [List.countP_flatMap]
  have h1 : ∀ k, k ≤ 6 → (clsN L k).countP (fun p => decide (p.length = j)) = if k = j then (clsN L k).length else 0 := fun k hk => by
    by_cases e : k = j
    · rw [if_pos e, List.countP_eq_length]
      intro x hx
      rw [decide_eq_true_eq, ← e]
      exact ((mem_clsN hk).1 hx).2.1
    · rw [if_neg e, List.countP_eq_zero]
      intro x hx
      rw [decide_eq_true_eq]
      have := ((mem_clsN hk).1 hx).2.1
      omega
  have h2 : ∀ m, m ≤ 7 → ((List.range m).map ((List.countP fun p => decide (p.length = j)) ∘ clsN L)).sum = if j < m then (clsN L j).length else 0 := by
    intro m
    induction m with
    | zero => intro _; simp
    | succ m ih =>
      intro hm
      rw [List.range_succ, List.map_append, List.sum_append, ih (by omega)]
      simp only [List.map_cons, List.map_nil, List.sum_cons, List.sum_nil, Function.comp_apply, Nat.add_zero]
      rw [h1 m (by omega)]
      by_cases e : m = j
      · subst e
        rw [if_neg (by omega), if_pos rfl, if_pos (by omega), Nat.zero_add]
      · rw [if_neg e, Nat.add_zero]
        by_cases h3 : j < m
        · rw [if_pos h3, if_pos (by omega)]
        · rw [if_neg h3, if_neg (by omega)]
  rw [h2 (n + 1) (by omega), if_pos hj]
/-! BasisUpTo -/
/-- What BasisUpTo strikes. -/
def outU (L : List (List Int)) (p : List Int) : Bool := decide (p ∈ L ++ [[]]) || !lowIn (L ++ [[]]) p
theorem outU_in {L : List (List Int)} {p : List Int} (h : p.length ≠ 0) : (!outU L p) = fineU L p := by
  unfold outU fineU lowIn okL
  rw [Bool.not_or, Bool.not_not]
  congr 1
  · congr 1
    rw [decide_eq_decide, List.mem_append, List.mem_singleton]
    constructor
    · rintro (h1 | rfl)
      · exact h1
      · exact absurd rfl h
    · exact .inl
  · congr 1
    funext q
    rw [Bool.eq_iff_iff, Bool.or_eq_true, decide_eq_true_eq, decide_eq_true_eq, decide_eq_true_eq, List.mem_append, List.mem_singleton, List.length_eq_zero_iff]
    exact Or.comm
theorem bu_all (L : List (List Int)) : ∀ n : Nat, n ≤ 6 → (allU n).filter (fun p => !outU L p) = buK L n
  | 0, _ => by
    rw [show allU 0 = [[]] from rfl, buK]
    have : outU L [] = true := by unfold outU; simp
    simp [this]
  | n + 1, hn => by
    rw [allU_succ, List.filter_append, bu_all L n (by omega), buK]
    congr 1
    exact List.filter_congr fun x hx => outU_in (by have := (permL_mem (n + 1) hn x hx).2; omega)
/-! texts tell permutations -/
theorem ptext_inj {p q : List Int} (hp : isP p = true) (hq : isP q = true) (h : ptext p = ptext q) : p = q := by
  have h1 := (pp_text p).2 hp
  have h2 := (pp_text q).2 hq
  rw [← h1, ← h2, h]
end Go.Proofs.YtplchjeamooliaaDoor


/-
  slices.SortFunc over rows of rows, under impl.comparePerms.
-/

namespace Go.Proofs.YtplchjeamooliaaDoor
set_option maxRecDepth 100000
open Go.RowKit

/-! rows, each with what it holds -/
abbrev Pr := Value × List Int
structure RowPrs (w : World) (B : Nat) (xs : List Pr) : Prop where
  row : ∀ q ∈ xs, Ints w B q.1 q.2
  away : xs.Pairwise fun a b => Away a.1 b.1
theorem RowPrs.inner {w : World} {B : Nat} {xs : List Pr} (h : RowPrs w B xs) : Inner w B (xs.map (·.1)) (xs.map (·.2)) := by
  refine ⟨by simp, fun i u zs hu hz => ?_, ?_⟩
  · rw [List.getElem?_map] at hu hz
    cases hq : xs[i]? with
    | none => rw [hq] at hu; cases hu
    | some q =>
      rw [hq] at hu hz
      cases hu; cases hz
      exact h.row q (List.mem_of_getElem? hq)
  · rw [List.pairwise_map]
    exact h.away
theorem Inner.prs {w : World} {B : Nat} {vs : List Value} {zss : List (List Int)} (h : Inner w B vs zss) : ∃ xs : List Pr, xs.map (·.1) = vs ∧ xs.map (·.2) = zss ∧ RowPrs w B xs := by
  have h1 : (vs.zip zss).map (·.1) = vs := List.map_fst_zip (by rw [h.len]; exact Nat.le_refl _)
  have h2 : (vs.zip zss).map (·.2) = zss := List.map_snd_zip (by rw [h.len]; exact Nat.le_refl _)
  refine ⟨vs.zip zss, h1, h2, fun q hq => ?_, ?_⟩
  · obtain ⟨i, hi, rfl⟩ := List.getElem_of_mem hq
    rw [List.length_zip] at hi
    exact h.row i _ _ (by rw [List.getElem_zip]; exact List.getElem?_eq_getElem (by omega)) (by rw [List.getElem_zip]; exact List.getElem?_eq_getElem (by omega))
  · have := h.away
    rw [← h1, List.pairwise_map] at this
    exact this
theorem RowPrs.sub {w : World} {B : Nat} {xs ys : List Pr} (h : RowPrs w B xs) (hs : ys.Sublist xs) : RowPrs w B ys := ⟨fun q hq => h.row q (hs.subset hq), h.away.sublist hs⟩
theorem RowPrs.perm {w : World} {B : Nat} {xs ys : List Pr} (h : RowPrs w B xs) (hp : ys.Perm xs) : RowPrs w B ys :=
  ⟨fun q hq => h.row q (hp.subset hq), (hp.pairwise_iff (fun {_ _} h => h.symm)).2 h.away⟩
theorem RowPrs.keepI {w w' : World} {B : Nat} {xs : List Pr} (h : RowPrs w B xs) (hk : KeepI w w') : RowPrs w' B xs := ⟨fun q hq => (h.row q hq).keepI hk, h.away⟩

/-! the sort -/
structure El (w : World) (B : Nat) where
  q : Pr
  row : Ints w B q.1 q.2
  perm : isP q.2 = true
def El.enc {w : World} {B : Nat} (x : El w B) : Value := x.q.1
def El.cf {w : World} {B : Nat} (x y : El w B) : Int := cmpV x.q.2 y.q.2
theorem els {w : World} {B : Nat} : ∀ xs : List Pr, (∀ q ∈ xs, Ints w B q.1 q.2 ∧ isP q.2 = true) → ∃ ds : List (El w B), ds.map (·.q) = xs
  | [], _ => ⟨[], rfl⟩
  | q :: xs, h => by
    obtain ⟨ds, hd⟩ := els xs fun q hq => h q (by simp [hq])
    exact ⟨⟨q, (h q (by simp)).1, (h q (by simp)).2⟩ :: ds, by rw [List.map_cons, hd]⟩
theorem El.one {w : World} {B : Nat} : OneCell (El.enc (w := w) (B := B)) := fun x => by
  obtain ⟨A, c, h⟩ := x.row.slice
  unfold El.enc
  rw [h]; rfl
theorem El.swo {w : World} {B : Nat} : Sort.SWO (ltOf (El.cf (w := w) (B := B))) where
  irrefl x := by unfold ltOf El.cf; rw [cmpV_befL]; exact befL_irrefl _
  trans x y z h1 h2 := by unfold ltOf El.cf at *; rw [cmpV_befL] at *; exact befL_trans h1 h2
  ntrans x y z h1 h2 := by
    unfold ltOf El.cf at *
    rw [cmpV_befL] at *
    cases h3 : befL x.q.2 z.q.2 with
    | false => rfl
    | true =>
      have h4 := befL_le_lt h1 h3
      rw [h2] at h4; cases h4
theorem take_put {α : Type} [Inhabited α] (enc : α → Value) (cur : Array Value) (d : Array α) (h : d.size ≤ cur.size) : (Sort.putCells enc 0 d cur).toList.take d.size = d.toList.map enc := by
  apply List.ext_getElem?
  intro j
  by_cases hj : j < d.size
  · rw [List.getElem?_take_of_lt hj, Array.getElem?_toList]
    simp [Sort.putCells, hj, show j < cur.size by omega]
  · rw [List.getElem?_take_eq_none (by omega), List.getElem?_eq_none (by simp; omega)]
theorem heap_put {α : Type} [Inhabited α] (enc : α → Value) {w : World} {g m : Nat} {os : Array Obj} {cur : Array Value} {e : TypeId} {fr : Nat × Nat} (d : Array α) (hb : w.heap[g]? = some (.cells cur e fr)) :
    (sortWorld enc w g 0 m d os).heap[g]? = some (.cells (Sort.putCells enc 0 d cur) e fr) := by
  have hg : g < w.heap.size := (Array.getElem?_eq_some_iff.1 hb).1
  unfold sortWorld
  rw [Sort.heap_grow_old _ _ (by simpa using hg)]
  simp [Sort.putRow, Sort.mapBlock, Sort.ahead, Array.getElem?_modify, hb, Sort.onCells]
theorem heap_far {α : Type} [Inhabited α] (enc : α → Value) {w : World} {g m : Nat} {os : Array Obj} (d : Array α) {i : Nat} (hi : i < w.heap.size) (hne : g ≠ i) : (sortWorld enc w g 0 m d os).heap[i]? = w.heap[i]? := by
  unfold sortWorld
  rw [Sort.heap_grow_old _ _ (by simpa using hi)]
  simp [Sort.putRow, Sort.mapBlock, Sort.ahead, Array.getElem?_modify, hne]
theorem size_sorted {α : Type} [Inhabited α] (enc : α → Value) (w : World) (g m : Nat) (os : Array Obj) (d : Array α) : w.heap.size ≤ (sortWorld enc w g 0 m d os).heap.size := by unfold sortWorld; simp
theorem grown_sorted {α : Type} [Inhabited α] (enc : α → Value) (w : World) (g m : Nat) (os : Array Obj) (d : Array α) : w.grownBy (sortWorld enc w g 0 m d os) (some g) :=
  ⟨rfl, rfl, rfl, size_sorted enc w g m os d, fun _ hk hne => heap_far enc d hk fun e => hne (by rw [e])⟩
theorem own_sorted {α : Type} [Inhabited α] (enc : α → Value) {w : World} {B g n cap m : Nat} {e : TypeId} {os : Array Obj} {xs : List Value} (d : Array α) (hd : d.size = n) (h : w.ownsRow B e 1 (.slice (some ⟨g, 0, none⟩) n cap) n xs) :
    (sortWorld enc w g 0 m d os).ownsRow B e 1 (.slice (some ⟨g, 0, none⟩) n cap) n (d.toList.map enc) := by
  refine ⟨by simp [hd], ?_⟩
  rcases h.2 with ⟨hv, _⟩ | ⟨g', cap', cur, hv, hb, hg, hnc, hc, hsz, ht⟩
  · cases hv
  · injection hv with h1 h2 h3
    injection h1 with h1
    injection h1 with h1
    subst h1; subst h3
    exact .inr ⟨g, cap, _, rfl, hb, heap_put enc d hg, hnc, hc, by simpa [Sort.putCells] using hsz, by rw [Nat.mul_one, ← hd]; exact take_put enc cur d (by omega)⟩
theorem holds_own {α : Type} [Inhabited α] (enc : α → Value) {w : World} {B g n cap : Nat} {e : TypeId} (ds : List α) (h : w.ownsRow B e 1 (.slice (some ⟨g, 0, none⟩) n cap) n (ds.map enc)) : Sort.Holds enc w g 0 ds.toArray := by
  have hl : ds.length = n := by simpa using h.1
  intro j hj
  have hj' : j < ds.length := by simpa using hj
  refine ⟨?_, by rw [Nat.zero_add]; exact h.frozenAt j⟩
  rw [Nat.zero_add, h.cellAt j (by omega)]
  simp [hj']

/-- A row of rows, sorted: the same rows, in order. -/
def Sorted (w : World) (B g n cap : Nat) (xs : List Pr) (e : Ending) (w' : World) : Prop :=
  e = .returned (.tuple #[]) ∧ ∃ ys : List Pr, ys.Perm xs ∧ (∀ (i j : Nat) (x y : Pr), i < j → ys[i]? = some x → ys[j]? = some y → befL y.2 x.2 = false) ∧
    w'.ownsRow B 30 1 (.slice (some ⟨g, 0, none⟩) n cap) n (ys.map (·.1)) ∧ w.grownBy w' (some g)
theorem sort_any (w : World) (B g n cap : Nat) (xs : List Pr) (hown : w.ownsRow B 30 1 (.slice (some ⟨g, 0, none⟩) n cap) n (xs.map (·.1))) (hx : RowPrs w B xs) (hP : ∀ q ∈ xs, isP q.2 = true) (hn : n ≤ 1048576) :
    Calls Tryd.prog 42 #[.slice (some ⟨g, 0, none⟩) n cap, .func (.func 43) #[] #[]] w (Sorted w B g n cap xs) := by
  have hl : xs.length = n := by simpa using hown.1
  cases xs with
  | nil =>
    obtain rfl : n = 0 := by simpa using hl.symm
    refine (Tryd.slices_SortFunc_none (α := Unit) _ _ _ w).mono ?_
    rintro e w' ⟨rfl, rfl⟩
    exact ⟨rfl, [], List.Perm.refl _, fun i j x y _ h => by simp at h, hown, World.grownBy.refl _ _⟩
  | cons q xs =>
    obtain ⟨ds, hds⟩ := els (q :: xs) fun p hp => ⟨hx.row p hp, hP p hp⟩
    have hq := hx.row q (by simp)
    have hqP := hP q (by simp)
    letI : Inhabited (El w B) := ⟨⟨q, hq, hqP⟩⟩
    have henc : ds.map El.enc = (q :: xs).map (·.1) := by rw [← hds, List.map_map]; rfl
    have hdl : ds.length = n := by rw [← hl, ← hds, List.length_map]
    have hg := (hown.lt g rfl).2
    have eg : ∀ args w, (callFunc 43 args).run Tryd.prog w = .ok (.enter 43 args) w := enters_of Tryd.func43 (by kernel_rfl) rfl
    have hcmp : CmpLays1 Tryd.prog 43 #[] (El.enc (w := w) (B := B)) El.cf g 0 ds.toArray.size w := fun m os dk hs x y => by
      have hk : KeepI w (sortWorld El.enc w g 0 m dk os) := by
        have hgr := grown_sorted (El.enc (w := w) (B := B)) w g m os dk
        exact KeepI.of_grown hown hgr
      obtain ⟨A1, c1, h1⟩ := x.row.slice
      obtain ⟨A2, c2, h2⟩ := y.row.slice
      have i1 := x.row.keepI hk
      have i2 := y.row.keepI hk
      show Calls _ _ #[x.q.1, y.q.1] _ _
      rw [h1] at i1 ⊢
      rw [h2] at i2 ⊢
      exact comparePerms_any A1 A2 _ c1 _ _ c2 _ x.q.2 y.q.2 _ (i1.argP x.perm) (i2.argP y.perm)
    have hcon := Tryd.slices_SortFunc (El.enc (w := w) (B := B)) El.one El.cf El.swo 43 #[] g 0 cap ds.toArray w eg hcmp (holds_own El.enc ds (by rw [henc]; exact hown)) hg (by simp; omega)
    rw [show ds.toArray.size = n by simpa using hdl] at hcon
    refine hcon.mono ?_
    rintro e w' ⟨rfl, d', m, os, hp, hs, rfl⟩
    obtain ⟨p1, _, p3⟩ := hp
    have hd' : d'.size = n := by rw [p1]; simpa using hdl
    have hperm : d'.toList.Perm ds := by
      have h1 : d'.extract 0 n = d' := by rw [← hd']; simp
      have h2 : ds.toArray.extract 0 n = ds.toArray := by rw [← hdl]; simp
      rw [h1, h2] at p3
      simpa using p3
    refine ⟨rfl, d'.toList.map (·.q), by rw [← hds]; exact hperm.map _, fun i j x y hij hi hj => ?_, ?_, grown_sorted _ _ _ _ _ _⟩
    · rw [List.getElem?_map] at hi hj
      have hjn : j < n := by
        cases hq : d'.toList[j]? with
        | none => rw [hq] at hj; cases hj
        | some u => have := (List.getElem?_eq_some_iff.1 hq).1; simpa [hd'] using this
      have := hs i j (Nat.zero_le _) hij hjn
      unfold ltOf El.cf at this
      rw [cmpV_befL] at this
      rw [getElem!_pos d' i (by omega), getElem!_pos d' j (by omega)] at this
      rw [List.getElem?_eq_getElem (by simp; omega)] at hi hj
      simp at hi hj
      subst hi; subst hj
      exact this
    · rw [List.map_map]
      exact own_sorted El.enc d' hd' hown
end Go.Proofs.YtplchjeamooliaaDoor


/-
  slices.CompactFunc over rows of rows, under slices.Equal.
-/

namespace Go.Proofs.YtplchjeamooliaaDoor
set_option maxRecDepth 100000
open Go.RowKit

/-! plain -/
theorem keepN_le {α : Type} {f : α → List Int} (xs : List α) (k : Nat) : (keepN f xs k).length ≤ k := by
  have h := (keepN_sub (f := f) xs k).length_le
  rw [List.length_take] at h
  omega
/-- The cells in the midst of the work: what was kept, then what stood there. -/
def midV (xs : List Pr) (j : Nat) : List Value := (keepN (·.2) xs j).map (·.1) ++ (xs.map (·.1)).drop (keepN (·.2) xs j).length
theorem midV_len {xs : List Pr} {j : Nat} (h : j ≤ xs.length) : (midV xs j).length = xs.length := by
  have := keepN_le (f := fun q : Pr => q.2) xs j
  unfold midV
  rw [List.length_append, List.length_drop, List.length_map, List.length_map]
  omega
theorem midV_at {xs : List Pr} {j i : Nat} {q : Pr} (h : (keepN (·.2) xs j).length ≤ i) (hq : xs[i]? = some q) : (midV xs j)[i]? = some q.1 := by
  unfold midV
  rw [List.getElem?_append_right (by rw [List.length_map]; exact h), List.length_map, List.getElem?_drop, show (keepN (·.2) xs j).length + (i - (keepN (·.2) xs j).length) = i by omega, List.getElem?_map, hq]
  rfl
theorem midV_same {xs : List Pr} {k : Nat} {x y : Pr} (h : xs[k]? = some x) (hk : 0 < k) (hy : xs[k - 1]? = some y) (he : y.2 = x.2) : midV xs (k + 1) = midV xs k := by
  unfold midV
  rw [keepN_same (f := fun q : Pr => q.2) h hk hy he]
theorem midV_new {xs : List Pr} {k : Nat} {x y : Pr} (h : xs[k]? = some x) (hy : xs[k - 1]? = some y) (he : y.2 ≠ x.2) : midV xs (k + 1) = (midV xs k).set (keepN (·.2) xs k).length x.1 := by
  have hk : k < xs.length := (List.getElem?_eq_some_iff.1 h).1
  have hle := keepN_le (f := fun q : Pr => q.2) xs k
  unfold midV
  rw [keepN_new (f := fun q : Pr => q.2) h hy he, List.map_append, List.length_append, List.length_singleton, List.map_singleton]
  rw [List.set_append_right _ _ (by rw [List.length_map]; exact Nat.le_refl _), List.length_map, Nat.sub_self]
  rw [List.drop_eq_getElem_cons (show (keepN (fun q : Pr => q.2) xs k).length < (xs.map (·.1)).length by rw [List.length_map]; omega), List.set_cons_zero]
  simp
theorem keepN_all {xs : List Pr} {k : Nat} {x y : Pr} (h : keepN (·.2) xs k = xs.take k) (hx : xs[k]? = some x) (hy : xs[k - 1]? = some y) (he : y.2 ≠ x.2) : keepN (·.2) xs (k + 1) = xs.take (k + 1) := by
  rw [keepN_new (f := fun q : Pr => q.2) hx hy he, h, List.take_add_one, hx]
  rfl
theorem keepN_first {xs : List Pr} (h : 0 < xs.length) : keepN (·.2) xs 1 = xs.take 1 := by
  rw [keepN_one (List.getElem?_eq_getElem h), List.take_add_one, List.getElem?_eq_getElem h]
  rfl
theorem midV_take {xs : List Pr} {k : Nat} (h : keepN (·.2) xs k = xs.take k) : midV xs k = xs.map (·.1) := by
  unfold midV
  rw [h, List.length_take]
  by_cases hk : k ≤ xs.length
  · rw [Nat.min_eq_left hk, List.map_take, List.take_append_drop]
  · rw [Nat.min_eq_right (by omega), List.take_of_length_le (by omega), List.drop_of_length_le (by rw [List.length_map]; exact Nat.le_refl _), List.append_nil]

/-! memory -/
theorem own_cells {B g n cap : Nat} {e : TypeId} : ∀ (vs : List Value) (o : Nat) (w : World) (xs : List Value), w.ownsRow B e 1 (.slice (some ⟨g, 0, none⟩) n cap) n xs →
    ∃ ys, (w.setCells g o vs).ownsRow B e 1 (.slice (some ⟨g, 0, none⟩) n cap) n ys ∧ ys.take o = xs.take o ∧ w.grownBy (w.setCells g o vs) (some g)
  | [], o, w, xs, h => ⟨xs, h, rfl, World.grownBy.refl _ _⟩
  | v :: vs, o, w, xs, h => by
    have h1 := h.stored o v
    obtain ⟨ys, h2, h3, h4⟩ := own_cells vs (o + 1) _ _ h1.1
    refine ⟨ys, h2, ?_, grown_then h1.2 h4⟩
    have := congrArg (List.take o) h3
    rw [List.take_take, List.take_take, Nat.min_eq_left (by omega)] at this
    rw [this, List.take_set_of_le (Nat.le_refl _)]
theorem Arg.drewN {w : World} {B n c : Nat} {A : Option Addr} {zs : List Int} (h : Arg w B A n c zs) (k : Nat) : Arg (w.drewN k) B A n c zs := ⟨h.reads.drewN k, h.under, h.le, h.cap, h.small, h.nil⟩
theorem decide_same {p q : List Int} (h : decide (p = q) = true) : q = p := (of_decide_eq_true h).symm
theorem decide_diff {p q : List Int} (h : decide (p = q) = false) : q ≠ p := fun e => of_decide_eq_false h e.symm
/-- Where a row stands in the midst of CompactFunc. -/
structure Mid (w wr : World) (B g n cap : Nat) (xs : List Pr) (j : Nat) : Prop where
  own : wr.ownsRow B 30 1 (.slice (some ⟨g, 0, none⟩) n cap) n (midV xs j)
  grown : w.grownBy wr (some g)
theorem Mid.cell {w wr : World} {B g n cap j i : Nat} {xs : List Pr} {q : Pr} (h : Mid w wr B g n cap xs j) (hi : (keepN (·.2) xs j).length ≤ i) (hn : i < n) (hq : xs[i]? = some q) : wr.cell? ⟨g, i, none⟩ = some q.1 := by
  rw [h.own.cellAt i (by omega)]
  exact midV_at hi hq
theorem Mid.drewN {w wr : World} {B g n cap j : Nat} {xs : List Pr} (h : Mid w wr B g n cap xs j) (k : Nat) : Mid w (wr.drewN k) B g n cap xs j := ⟨own_below h.own ((Drew.refl wr).more k |>.below _), grown_then h.grown (grown_of_below ((Drew.refl wr).more k |>.below _) _)⟩

def Compacted (w : World) (B g cap : Nat) (xs : List Pr) (e : Ending) (w' : World) : Prop :=
  e = .returned (.slice (some ⟨g, 0, none⟩) (keepN (·.2) xs xs.length).length cap) ∧ w'.ownsRow B 30 1 (.slice (some ⟨g, 0, none⟩) (keepN (·.2) xs xs.length).length cap) (keepN (·.2) xs xs.length).length ((keepN (·.2) xs xs.length).map (·.1)) ∧ w.grownBy w' (some g)

set_option maxHeartbeats 1600000 in
theorem compact_any (w : World) (B g n cap : Nat) (xs : List Pr) (hown : w.ownsRow B 30 1 (.slice (some ⟨g, 0, none⟩) n cap) n (xs.map (·.1))) (hx : RowPrs w B xs) (hP : ∀ q ∈ xs, isP q.2 = true) (hn : n ≤ 1048576) (hnc : n ≤ cap) :
    Calls Tryd.prog 44 #[.slice (some ⟨g, 0, none⟩) n cap, .func (.func 25) #[] #[]] w (Compacted w B g cap xs) := by
  have hl : xs.length = n := by simpa using hown.1
  by_cases h2 : n < 2
  · have hk : keepN (·.2) xs xs.length = xs := by
      rw [hl]
      by_cases h0 : n = 0
      · subst h0
        obtain rfl := List.eq_nil_of_length_eq_zero hl
        rfl
      · obtain rfl : n = 1 := by omega
        rw [keepN_first (by omega), List.take_of_length_le (by omega)]
    have hfin : Compacted w B g cap xs (.returned (.slice (some ⟨g, 0, none⟩) n cap)) w := by
      unfold Compacted
      rw [hk, hl]
      exact ⟨rfl, hown, World.grownBy.refl _ _⟩
    clear hk hown hx hP
    go_enter Tryd.func44, Tryd.ntmps44
    go_wp2
    go_ret
    exact hfin
  · have HL := hide hl
    have HX := hide hx
    have HP := hide hP
    have hstart : Mid w w B g n cap xs 1 := ⟨by rw [midV_take (keepN_first (by omega))]; exact hown, World.grownBy.refl _ _⟩
    have HOWN := hide hown
    clear hl hx hP hown
    go_enter Tryd.func44, Tryd.ntmps44
    go_wp2
    go_loopw [5] (fun i wr => ∃ k : Nat, 1 ≤ k ∧ k ≤ n ∧ i = .int .i64 k ∧ Mid w wr B g n cap xs k ∧ Hid (keepN (·.2) xs k = xs.take k)) (fun i _ => n - (intOf i).toNat)
    case atStart => exact ⟨1, Nat.le_refl _, by omega, rfl, hstart, by exact keepN_first (by rw [unhide HL]; omega)⟩
    case round =>
      obtain ⟨k, hk1, hk, rfl, hM, hKeep⟩ := hrel
      clear hstart
      by_cases hlt : k < n
      · obtain ⟨j, rfl⟩ : ∃ j, k = j + 1 := ⟨k - 1, by omega⟩
        have hkl := keepN_le (f := fun q : Pr => q.2) xs (j + 1)
        have hkj : (keepN (·.2) xs (j + 1)).length = j + 1 := by rw [unhide hKeep, List.length_take, unhide HL]; omega
        have hqx : xs[j + 1]? = some (xs[j + 1]'(by rw [unhide HL]; exact hlt)) := List.getElem?_eq_getElem _
        have hqy : xs[j]? = some (xs[j]'(by rw [unhide HL]; omega)) := List.getElem?_eq_getElem _
        generalize xs[j + 1]'(by rw [unhide HL]; exact hlt) = x at hqx
        generalize xs[j]'(by rw [unhide HL]; omega) = y at hqy
        obtain ⟨vx, px⟩ := x
        obtain ⟨vy, py⟩ := y
        have hmv := midV_take (unhide hKeep)
        have hcx : wr.cell? ⟨g, j + 1, none⟩ = some vx := by rw [hM.own.cellAt (j + 1) (by omega), hmv, List.getElem?_map, hqx]; rfl
        have hcy : wr.cell? ⟨g, j, none⟩ = some vy := by rw [hM.own.cellAt j (by omega), hmv, List.getElem?_map, hqy]; rfl
        have hkI : KeepI w wr := by
          have h0 := KeepI.of_grown (w' := wr) (v := .slice (some ⟨g, 0, none⟩) n cap) (unhide HOWN) hM.grown
          exact h0
        have ix : Ints wr B vx px := ((unhide HX).row _ (List.mem_of_getElem? hqx)).keepI hkI
        have iy : Ints wr B vy py := ((unhide HX).row _ (List.mem_of_getElem? hqy)).keepI hkI
        have hxP : isP px = true := unhide HP _ (List.mem_of_getElem? hqx)
        have hyP : isP py = true := unhide HP _ (List.mem_of_getElem? hqy)
        obtain ⟨A1, c1, rfl⟩ := ix.slice
        obtain ⟨A2, c2, rfl⟩ := iy.slice
        obtain ⟨b, hb⟩ : ∃ b, decide (px = py) = b := ⟨_, rfl⟩
        have HE := hide (fun k => eqsl_any A1 A2 _ c1 _ _ c2 _ px py b hb (wr.drewN k) ((ix.argP hxP).drewN k) ((iy.argP hyP).drewN k))
        have HM := hide hM
        have HC := hide (And.intro hqx hqy)
        have HKJ := hide hkj
        have HMV := hide hmv
        clear hM hmv hkI ix iy hxP hyP hkl hkj hqx hqy
        have hbd0 : (0 : Int) ≤ (j : Int) + 1 := by omega
        have hbd1 : (j : Int) + 1 < (n : Int) := by omega
        have hbd2 : (j : Int) < (n : Int) := by omega
        have hwj : IntKind.i64.wrap (j : Int) = (j : Int) := by rw [IntKind.wrap_i64]; omega
        cases b with
        | false =>
          have hnext := hide (keepN_all (unhide hKeep) (unhide HC).1 (unhide HC).2 (decide_diff hb))
          clear hb hKeep
          go_wp2
          go_quiet ((go_at_call 25; exact Calls.quiet_of (unhide HE _)))
          go_wp2
          go_roundw
          case rel => exact ⟨j + 1 + 1, by omega, by omega, by go_num, ⟨by rw [(midV_take (unhide hnext)).trans (unhide HMV).symm]; exact ((unhide HM).drewN nq).own, ((unhide HM).drewN _).grown⟩, hnext⟩
          case measure => simp [intOf]; omega
        | true =>
          have hsm := decide_same hb
          have hkn := keepN_same (f := fun q : Pr => q.2) (unhide HC).1 (by omega) (unhide HC).2 hsm
          have hmn := midV_same (unhide HC).1 (by omega) (unhide HC).2 hsm
          have HK2 := hide (show (keepN (·.2) xs (j + 1 + 1)).length = j + 1 from (congrArg List.length hkn).trans (unhide HKJ))
          have HM2 := hide (fun k => (show Mid w (wr.drewN k) B g n cap xs (j + 1 + 1) from ⟨by rw [hmn]; exact ((unhide HM).drewN k).own, ((unhide HM).drewN k).grown⟩))
          have hcne : ¬ cap = j + 1 := by omega
          clear hb hKeep hsm hkn hmn HM HMV
          go_wp2
          go_quiet ((go_at_call 25; exact Calls.quiet_of (unhide HE _)))
          go_wp2
          obtain ⟨W, hW⟩ : ∃ W, W = wr.drewN nq := ⟨_, rfl⟩
          have HM3 : Mid w W B g n cap xs (j + 1 + 1) := by rw [hW]; exact unhide HM2 nq
          rw [← hW]
          clear HM2 HE HC hcx hcy hW
          rw [show ((j + 1 : Nat) : Int) = (j : Int) + 1 by omega]
          go_loopw [5, 7] (fun kv iv wr2 => ∃ k2 m : Nat, 1 ≤ k2 ∧ j + 1 + k2 ≤ n ∧ m < j + 1 + k2 ∧ kv = .int .i64 m ∧ iv = .int .i64 k2 ∧ Mid w wr2 B g n cap xs (j + 1 + k2) ∧ Hid ((keepN (·.2) xs (j + 1 + k2)).length = m)) (fun _ iv _ => n - (intOf iv).toNat)
          case atStart => exact ⟨1, j + 1, Nat.le_refl _, by omega, by omega, by go_num, by go_num, HM3, HK2⟩
          case round =>
            obtain ⟨k2, m, hk21, hk2n, hmk, rfl, rfl, hM, hm⟩ := hrel
            clear HM3 HK2
            by_cases hlt2 : j + 1 + k2 < n
            · obtain ⟨i, rfl⟩ : ∃ i, k2 = i + 1 := ⟨k2 - 1, by omega⟩
              obtain ⟨q, hq⟩ : ∃ q, q = j + 1 + i := ⟨_, rfl⟩
              have hq1 : j + 1 + (i + 1) = q + 1 := by omega
              rw [hq1] at hM hm
              have hqx : xs[q + 1]? = some (xs[q + 1]'(by rw [unhide HL]; omega)) := List.getElem?_eq_getElem _
              have hqy : xs[q]? = some (xs[q]'(by rw [unhide HL]; omega)) := List.getElem?_eq_getElem _
              generalize xs[q + 1]'(by rw [unhide HL]; omega) = x at hqx
              generalize xs[q]'(by rw [unhide HL]; omega) = y at hqy
              obtain ⟨vx, px⟩ := x
              obtain ⟨vy, py⟩ := y
              have hcx := hM.cell (by rw [unhide hm]; omega) (by omega) hqx
              have hcy := hM.cell (by rw [unhide hm]; omega) (by omega) hqy
              rw [show q + 1 = j + 1 + (i + 1) by omega] at hcx
              rw [hq] at hcy
              have hkI : KeepI w wr := KeepI.of_grown (w' := wr) (v := .slice (some ⟨g, 0, none⟩) n cap) (unhide HOWN) hM.grown
              have ix : Ints wr B vx px := ((unhide HX).row _ (List.mem_of_getElem? hqx)).keepI hkI
              have iy : Ints wr B vy py := ((unhide HX).row _ (List.mem_of_getElem? hqy)).keepI hkI
              have hxP : isP px = true := unhide HP _ (List.mem_of_getElem? hqx)
              have hyP : isP py = true := unhide HP _ (List.mem_of_getElem? hqy)
              obtain ⟨A1, c1, rfl⟩ := ix.slice
              obtain ⟨A2, c2, rfl⟩ := iy.slice
              obtain ⟨b, hb⟩ : ∃ b, decide (px = py) = b := ⟨_, rfl⟩
              have HE := hide (fun k => eqsl_any A1 A2 _ c1 _ _ c2 _ px py b hb (wr.drewN k) ((ix.argP hxP).drewN k) ((iy.argP hyP).drewN k))
              have HM := hide hM
              have HC := hide (And.intro hqx hqy)
              have HQ2 : Hid (j + 1 + (i + 1 + 1) = q + 1 + 1) := (by omega : j + 1 + (i + 1 + 1) = q + 1 + 1)
              have HQ := hide hq
              clear hM hkI ix iy hxP hyP hqx hqy hq hq1
              have hbi0 : (0 : Int) ≤ (i : Int) + 1 := by omega
              have hbi1 : (i : Int) + 1 < ((n - (j + 1) : Nat) : Int) := by omega
              have hbi2 : (i : Int) < ((n - (j + 1) : Nat) : Int) := by omega
              have hwi : IntKind.i64.wrap (i : Int) = (i : Int) := by rw [IntKind.wrap_i64]; omega
              cases b with
              | true =>
                have hsm := decide_same hb
                have hkn := keepN_same (f := fun q : Pr => q.2) (unhide HC).1 (by omega) (unhide HC).2 hsm
                have hmn := midV_same (unhide HC).1 (by omega) (unhide HC).2 hsm
                have HK2 := hide ((congrArg List.length hkn).trans (unhide hm))
                have HM2 := hide (fun k => (show Mid w (wr.drewN k) B g n cap xs (q + 1 + 1) from ⟨by rw [hmn]; exact ((unhide HM).drewN k).own, ((unhide HM).drewN k).grown⟩))
                clear hb hsm hkn hmn HM hm
                go_wp2
                go_quiet ((go_at_call 25; exact Calls.quiet_of (unhide HE _)))
                go_wp2
                go_roundw
                case rel => exact ⟨i + 1 + 1, m, by omega, by omega, by omega, rfl, by go_num, by rw [unhide HQ2]; exact unhide HM2 _, by rw [unhide HQ2]; exact HK2⟩
                case measure => simp [intOf]; omega
              | false =>
                have hmn := midV_new (unhide HC).1 (unhide HC).2 (decide_diff hb)
                have hkn := keepN_new (f := fun q : Pr => q.2) (unhide HC).1 (unhide HC).2 (decide_diff hb)
                have HK2 : Hid ((keepN (·.2) xs (q + 1 + 1)).length = m + 1) := hide (by
                  have := congrArg List.length hkn
                  rw [List.length_append, List.length_singleton, unhide hm] at this
                  exact this)
                have hmn2 : n - m ≠ 0 := by omega
                obtain ⟨old, hold⟩ : ∃ old, wr.cell? ⟨g, m, none⟩ = some old := ⟨_, by rw [(unhide HM).own.cellAt m (by omega)]; exact List.getElem?_eq_getElem (by rw [midV_len (by rw [unhide HL]; have := unhide HQ; omega), unhide HL]; omega)⟩
                have hfz := (unhide HM).own.frozenAt m
                have HM2 := hide (fun k => (show Mid w ((wr.drewN k).setCell ⟨g, m, none⟩ (.slice A1 px.length c1)) B g n cap xs (q + 1 + 1) from ⟨by
                  rw [hmn, unhide hm]
                  exact (((unhide HM).drewN k).own.stored m _).1, grown_then ((unhide HM).drewN k).grown (((unhide HM).drewN k).own.stored m _).2⟩))
                have hbm0 : (m : Int) < (n : Int) := by omega
                clear hb hkn hmn HM hm
                go_wp2
                go_quiet ((go_at_call 25; exact Calls.quiet_of (unhide HE _)))
                go_wp2
                go_roundw
                case rel => exact ⟨i + 1 + 1, m + 1, by omega, by omega, by omega, by go_num, by go_num, by rw [unhide HQ2]; exact unhide HM2 _, by rw [unhide HQ2]; exact HK2⟩
                case measure => simp [intOf]; omega
            · have hend : j + 1 + k2 = n := by omega
              rw [hend] at hM hm
              have hmn : m < n := by omega
              have hmc : ¬ cap = m := by omega
              have hbm0 : (m : Int) ≤ (cap : Int) := by omega
              have hbm1 : (m : Int) ≤ (n : Int) := by omega
              have hcl : ∀ ty, (Builtin.clear_ #[22] ty #[.slice (some ⟨g, m, none⟩) (n - m) (cap - m)]).run Tryd.prog wr = .ok (.tuple #[]) (wr.setCells g m (List.replicate (n - m) (.slice none 0 0))) :=
                fun ty => Lib.run_clear_slice wr _ _ ty _ Tryd.underlying22 Tryd.zeroValue30 rfl rfl g m _ _ (by omega) (fun i hi => by rw [hM.own.cellAt (m + i) (by omega), List.getElem?_eq_getElem (by rw [midV_len (by rw [unhide HL]; exact Nat.le_refl _), unhide HL]; omega)]; rfl) (fun i _ => hM.own.frozenAt (m + i))
              obtain ⟨ys, o1, o2, o3⟩ := own_cells (List.replicate (n - m) (.slice none 0 0)) m wr _ hM.own
              have hfin : Compacted w B g cap xs (.returned (.slice (some ⟨g, 0, none⟩) m cap)) (wr.setCells g m (List.replicate (n - m) (.slice none 0 0))) := by
                have h := own_cut o1 (show m ≤ n by omega)
                have h4 : ys.take m = (keepN (·.2) xs n).map (·.1) := by
                  rw [o2]
                  unfold midV
                  rw [List.take_append_of_le_length (by rw [List.length_map, unhide hm]; exact Nat.le_refl _), List.take_of_length_le (by rw [List.length_map, unhide hm]; exact Nat.le_refl _)]
                rw [h4] at h
                unfold Compacted
                rw [unhide HL, unhide hm]
                exact ⟨rfl, h, grown_then hM.grown o3⟩
              clear hM hm o1 o2 o3 HKJ
              go_wp2
              go_ret
              exact hfin
      · obtain rfl : n = k := by omega
        have hfin : Compacted w B g cap xs (.returned (.slice (some ⟨g, 0, none⟩) n cap)) wr := by
          have hk := unhide hKeep
          have hle := unhide HL
          have h := hM.own
          rw [midV_take hk] at h
          unfold Compacted
          rw [hle, hk, List.take_of_length_le (by omega), hle]
          exact ⟨rfl, h, hM.grown⟩
        clear hM hKeep
        go_wp2
        go_ret
        exact hfin
end Go.Proofs.YtplchjeamooliaaDoor


/-
  PLAIN: what slices.DeleteFunc leaves; the first place at which a test holds. Nothing here speaks of the program.
-/

namespace Go.Proofs.YtplchjeamooliaaDoor
set_option maxRecDepth 100000
open Go.RowKit

def kpt (f : List Int → Bool) (xs : List Pr) (j : Nat) : List Pr := (xs.take j).filter fun q => !f q.2
def midD (f : List Int → Bool) (xs : List Pr) (j : Nat) : List Value := (kpt f xs j).map (·.1) ++ (xs.map (·.1)).drop (kpt f xs j).length
theorem kpt_le (f : List Int → Bool) (xs : List Pr) (j : Nat) : (kpt f xs j).length ≤ j := by
  unfold kpt
  exact Nat.le_trans (List.length_filter_le _ _) (by rw [List.length_take]; omega)
theorem kpt_len (f : List Int → Bool) (xs : List Pr) (j : Nat) : (kpt f xs j).length ≤ xs.length := by
  unfold kpt
  exact Nat.le_trans (List.length_filter_le _ _) (by rw [List.length_take]; omega)
theorem kpt_out {f : List Int → Bool} {xs : List Pr} {k : Nat} {x : Pr} (h : xs[k]? = some x) (hf : f x.2 = true) : kpt f xs (k + 1) = kpt f xs k := by
  unfold kpt
  rw [List.take_add_one, h, List.filter_append]
  simp [hf]
theorem kpt_in {f : List Int → Bool} {xs : List Pr} {k : Nat} {x : Pr} (h : xs[k]? = some x) (hf : f x.2 = false) : kpt f xs (k + 1) = kpt f xs k ++ [x] := by
  unfold kpt
  rw [List.take_add_one, h, List.filter_append]
  simp [hf]
theorem kpt_first {f : List Int → Bool} {xs : List Pr} {k : Nat} (h : ∀ q ∈ xs.take k, f q.2 = false) : kpt f xs k = xs.take k := by
  unfold kpt
  rw [List.filter_eq_self]
  intro q hq
  rw [h q hq]; rfl
theorem kpt_all (f : List Int → Bool) (xs : List Pr) : (kpt f xs xs.length).map (·.2) = (xs.map (·.2)).filter fun z => !f z := by
  unfold kpt
  rw [List.take_length, List.filter_map]
  rfl
theorem kpt_sub (f : List Int → Bool) (xs : List Pr) (j : Nat) : (kpt f xs j).Sublist xs := by
  unfold kpt
  exact List.filter_sublist.trans (List.take_sublist _ _)
theorem midD_len {f : List Int → Bool} {xs : List Pr} {j : Nat} : (midD f xs j).length = xs.length := by
  have := kpt_len f xs j
  unfold midD
  rw [List.length_append, List.length_drop, List.length_map, List.length_map]
  omega
theorem midD_at {f : List Int → Bool} {xs : List Pr} {j i : Nat} {q : Pr} (h : (kpt f xs j).length ≤ i) (hq : xs[i]? = some q) : (midD f xs j)[i]? = some q.1 := by
  unfold midD
  rw [List.getElem?_append_right (by rw [List.length_map]; exact h), List.length_map, List.getElem?_drop, show (kpt f xs j).length + (i - (kpt f xs j).length) = i by omega, List.getElem?_map, hq]
  rfl
theorem midD_out {f : List Int → Bool} {xs : List Pr} {k : Nat} {x : Pr} (h : xs[k]? = some x) (hf : f x.2 = true) : midD f xs (k + 1) = midD f xs k := by
  unfold midD
  rw [kpt_out h hf]
theorem midD_in {f : List Int → Bool} {xs : List Pr} {k : Nat} {x : Pr} (h : xs[k]? = some x) (hf : f x.2 = false) : midD f xs (k + 1) = (midD f xs k).set (kpt f xs k).length x.1 := by
  have hk : k < xs.length := (List.getElem?_eq_some_iff.1 h).1
  have hle := kpt_le f xs k
  unfold midD
  rw [kpt_in h hf, List.map_append, List.length_append, List.length_singleton, List.map_singleton]
  rw [List.set_append_right _ _ (by rw [List.length_map]; exact Nat.le_refl _), List.length_map, Nat.sub_self]
  rw [List.drop_eq_getElem_cons (show (kpt f xs k).length < (xs.map (·.1)).length by rw [List.length_map]; omega), List.set_cons_zero]
  simp
theorem midD_first {f : List Int → Bool} {xs : List Pr} {k : Nat} (hk : k ≤ xs.length) (h : ∀ q ∈ xs.take k, f q.2 = false) : midD f xs k = xs.map (·.1) := by
  unfold midD
  rw [kpt_first h, List.length_take, Nat.min_eq_left hk, List.map_take, List.take_append_drop]
theorem midD_zero (f : List Int → Bool) (xs : List Pr) : midD f xs 0 = xs.map (·.1) := midD_first (Nat.zero_le _) (fun q hq => by simp at hq)
/-- Where a row stands in the midst of DeleteFunc. -/
structure MidD (w wr : World) (B g n cap : Nat) (f : List Int → Bool) (xs : List Pr) (j : Nat) : Prop where
  own : wr.ownsRow B 30 1 (.slice (some ⟨g, 0, none⟩) n cap) n (midD f xs j)
  grown : w.grownBy wr (some g)
theorem MidD.cell {w wr : World} {B g n cap j i : Nat} {f : List Int → Bool} {xs : List Pr} {q : Pr} (h : MidD w wr B g n cap f xs j) (hi : (kpt f xs j).length ≤ i) (hn : i < n) (hq : xs[i]? = some q) : wr.cell? ⟨g, i, none⟩ = some q.1 := by
  rw [h.own.cellAt i (by omega)]
  exact midD_at hi hq
theorem MidD.below {w wr w2 : World} {B g n cap j : Nat} {f : List Int → Bool} {xs : List Pr} (h : MidD w wr B g n cap f xs j) (hb : Below wr.heap.size wr w2) : MidD w w2 B g n cap f xs j := ⟨own_below h.own hb, grown_then h.grown (grown_of_below hb _)⟩
def Deleted (w : World) (B g cap : Nat) (f : List Int → Bool) (xs : List Pr) (e : Ending) (w' : World) : Prop :=
  e = .returned (.slice (some ⟨g, 0, none⟩) (kpt f xs xs.length).length cap) ∧ w'.ownsRow B 30 1 (.slice (some ⟨g, 0, none⟩) (kpt f xs xs.length).length cap) (kpt f xs xs.length).length ((kpt f xs xs.length).map (·.1)) ∧ w.grownBy w' (some g)
/-- The first place at which f holds, or -1. -/
def FirstAt (w : World) (f : List Int → Bool) (zss : List (List Int)) (e : Ending) (w' : World) : Prop :=
  ∃ x : Int, e = .returned (.int .i64 x) ∧ ((x = -1 ∧ ∀ z ∈ zss, f z = false) ∨ ∃ (k : Nat) (z : List Int), x = (k : Int) ∧ zss[k]? = some z ∧ f z = true ∧ ∀ y ∈ zss.take k, f y = false) ∧ Below w.heap.size w w'
theorem no_step {f : List Int → Bool} {zss : List (List Int)} {k : Nat} {z : List Int} (h : zss[k]? = some z) (hf : f z = false) (hk : ∀ y ∈ zss.take k, f y = false) : ∀ y ∈ zss.take (k + 1), f y = false := fun y hy => by
  rw [List.take_add_one, h] at hy
  rcases List.mem_append.1 hy with hy | hy
  · exact hk y hy
  · simp at hy; subst hy; exact hf
end Go.Proofs.YtplchjeamooliaaDoor
