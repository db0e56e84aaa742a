/-
  Words and contracts that the laws lean on, bundled: ChildT, NearM, Join, RunS, RunM, RunI, Conc, ChaI, End.
-/
import Derived.Test.YthndeaodpjelgaaB6
import Derived.Test.YthndeaodpjelgaaB2
import Derived.Test.YthndeaodpjelgaaB1
import Derived.Test.YthndeaodpjelgaaB3
import Derived.Deep.RegionHeld3
import Derived.Test.YthndeaodpjelgaaB4
import Derived.Lib.AppendZeros
import Derived.Test.YthndeaodpjelgaaRows
import Derived.ProofKit
import Derived.OpenShut
import Derived.Carry
import Derived.SliceStrings

/-
  spec.ChildAt, ParentOf, l14Sites, ActiveSites, ChildrenOf, by their contracts.
-/

namespace Go.Proofs.Ythndeaodpjelgaa
set_option maxRecDepth 100000
open Go.RowKit

set_option maxHeartbeats 1600000 in
theorem scha_any (A : Option Addr) (n c B : Nat) (zs : List Int) (m : Int) (hm : -9223372036854775808 ≤ m ∧ m ≤ 9223372036854775807) (w : World) (h : Arg w B A n c zs) :
    Calls Try.prog 5 #[.slice A n c, .int .i64 m] w (GivesIB w (chaR zs m) (chaOK zs m)) := by
  obtain ⟨hm1, hm2⟩ := hm
  have hl := h.len
  obtain ⟨b, hb⟩ : ∃ b, isP zs = b := ⟨_, rfl⟩
  have H0 := hide (sisperm_any A n c B zs b hb w h.reads h.le h.cap)
  cases b with
  | false =>
    have ho : chaOK zs m = false := by unfold chaOK; rw [hb]; rfl
    rw [chaR_no ho, ho]
    clear h hb ho hl
    go_enter Try.func5, Try.ntmps5
    go_wp2_with fail
    refine (unhide H0).mono ?_
    rintro e w1 ⟨rfl, hd⟩
    have hb1 := hd.below w.heap.size
    have hm := Ints.made0 w1 w.heap.size hb1.size
    have hb2 := hb1.alloc hb1.size (.cells #[] 3)
    clear hd H0 hb1
    go_wp2
    go_ret2
    exact GivesIB.mk _ hm hb2
  | true =>
    have hn8 : n ≤ 8 := by have := isP_le hb; omega
    by_cases h8 : n = 8
    · have ho : chaOK zs m = false := by unfold chaOK; rw [decide_eq_false (show ¬ zs.length ≠ 8 by omega)]; simp
      rw [chaR_no ho, ho]
      have h8b : ((n : Int) == 8) = true := by rw [h8]; rfl
      clear h hb ho hl h8
      go_enter Try.func5, Try.ntmps5
      go_wp2_with fail
      refine (unhide H0).mono ?_
      rintro e w1 ⟨rfl, hd⟩
      have hb1 := hd.below w.heap.size
      have hm := Ints.made0 w1 w.heap.size hb1.size
      have hb2 := hb1.alloc hb1.size (.cells #[] 3)
      clear hd H0 hb1
      go_wp2
      go_ret2
      exact GivesIB.mk _ hm hb2
    · have h8b : ((n : Int) == 8) = false := by rw [beq_eq_false_iff_ne]; omega
      by_cases hin : 0 ≤ m ∧ m ≤ (n : Int)
      · obtain ⟨k, rfl⟩ : ∃ k : Nat, m = (k : Int) := ⟨m.toNat, by omega⟩
        obtain ⟨e1, e2⟩ := chaR_yes hb (show zs.length < 8 by omega) (show k ≤ zs.length by omega)
        rw [e1, e2]
        have H2 := hide (fun w' => l1in_any (k : Int) 0 (n : Int) true (decide_eq_true hin) w')
        have H3 := hide (fun (w' : World) (d : Below w.heap.size w w') => l14child_any A n c B zs k w' (h.below d) (by omega) (by omega))
        clear h hb hl e1 e2 hin hm1 hm2
        go_enter Try.func5, Try.ntmps5
        go_wp2_with fail
        refine (unhide H0).mono ?_
        rintro e w1 ⟨rfl, hd⟩
        have hb1 := hd.below w.heap.size
        clear hd H0
        go_wp2_with fail
        refine (unhide H2 w1).mono ?_
        rintro e w2 ⟨rfl, hw2⟩
        rw [hw2]
        clear H2 hw2 w2
        have H4 := hide (unhide H3 w1 hb1)
        clear H3
        go_wp2_with fail
        refine (unhide H4).mono ?_
        rintro e w4 ⟨A4, c4, rfl, o4, d4⟩
        have hI := o4.low hb1.size
        have hb4 := below_after hb1 d4
        clear H4 o4 d4 hb1
        go_wp2
        go_ret2
        exact GivesIB.mk true hI hb4
      · have ho : chaOK zs m = false := by unfold chaOK; rw [decide_eq_false (show ¬ (0 ≤ m ∧ m ≤ (zs.length : Int)) by rw [hl]; exact hin)]; simp
        rw [chaR_no ho, ho]
        have H2 := hide (fun w' => l1in_any m 0 (n : Int) false (decide_eq_false hin) w')
        clear h hb ho hl hin
        go_enter Try.func5, Try.ntmps5
        go_wp2_with fail
        refine (unhide H0).mono ?_
        rintro e w1 ⟨rfl, hd⟩
        have hb1 := hd.below w.heap.size
        clear hd H0
        go_wp2_with fail
        refine (unhide H2 w1).mono ?_
        rintro e w2 ⟨rfl, hw2⟩
        rw [hw2]
        clear H2 hw2 w2
        have hm := Ints.made0 w1 w.heap.size hb1.size
        have hb2 := hb1.alloc hb1.size (.cells #[] 3)
        clear hb1
        go_wp2
        go_ret2
        exact GivesIB.mk _ hm hb2
set_option maxHeartbeats 1600000 in
theorem spar14_any (A : Option Addr) (n c B : Nat) (zs : List Int) (w : World) (h : Arg w B A n c zs) :
    Calls Try.prog 11 #[.slice A n c] w (GivesIB w (parR zs) (parOK zs)) := by
  have hl := h.len
  obtain ⟨b, hb⟩ : ∃ b, isP zs = b := ⟨_, rfl⟩
  have H0 := hide (sisperm_any A n c B zs b hb w h.reads h.le h.cap)
  cases b with
  | false =>
    have ho : parOK zs = false := by unfold parOK; rw [hb]; rfl
    rw [parR_no ho, ho]
    clear h hb ho hl
    go_enter Try.func11, Try.ntmps11
    go_wp2_with fail
    refine (unhide H0).mono ?_
    rintro e w1 ⟨rfl, hd⟩
    have hb1 := hd.below w.heap.size
    have hm := Ints.made0 w1 w.heap.size hb1.size
    have hb2 := hb1.alloc hb1.size (.cells #[] 3)
    clear hd H0 hb1
    go_wp2
    go_ret2
    exact GivesIB.mk _ hm hb2
  | true =>
    have hn8 : n ≤ 8 := by have := isP_le hb; omega
    by_cases h0 : n = 0
    · have ho : parOK zs = false := by unfold parOK; rw [decide_eq_false (show ¬ zs.length ≠ 0 by omega)]; simp
      rw [parR_no ho, ho]
      have h0b : ((n : Int) == 0) = true := by rw [h0]; rfl
      clear h hb ho hl h0
      go_enter Try.func11, Try.ntmps11
      go_wp2_with fail
      refine (unhide H0).mono ?_
      rintro e w1 ⟨rfl, hd⟩
      have hb1 := hd.below w.heap.size
      have hm := Ints.made0 w1 w.heap.size hb1.size
      have hb2 := hb1.alloc hb1.size (.cells #[] 3)
      clear hd H0 hb1
      go_wp2
      go_ret2
      exact GivesIB.mk _ hm hb2
    · have h0b : ((n : Int) == 0) = false := by rw [beq_eq_false_iff_ne]; omega
      have ho : parOK zs = true := by unfold parOK; rw [hb, decide_eq_true (by omega)]; rfl
      rw [parR_yes ho, ho]
      obtain ⟨i0, hi, hz0, hz1, hz2⟩ := info_parts intInfo
      have HA := hide h
      have HY := hide (fun (k : Nat) (z : Int) (hz : zs[k]? = some z) (hlt : z < (n : Int)) => parK_yes (p := zs) hz (by rw [hl]; exact hlt))
      have HN := hide (fun (k : Nat) (z : Int) (hz : zs[k]? = some z) (hlt : ¬ z < (n : Int)) => parK_no (p := zs) hz (by rw [hl]; exact hlt))
      have HEND := hide (show parK zs n = parL zs by rw [← hl]; exact parK_all zs)
      have HLE := hide (fun k => parK_le zs k)
      clear h hb hl ho
      go_enter Try.func11, Try.ntmps11
      go_wp2_with fail
      refine (unhide H0).mono ?_
      rintro e w1 ⟨rfl, hd⟩
      have hb1 := hd.below w.heap.size
      have hst := own0 w1 w.heap.size hb1.size
      have hbel := hb1.alloc hb1.size (.cells #[] 3)
      clear hd H0 hb1
      go_wp2
      go_loopw [4, 5] (fun v i wr => ∃ k : Nat, k ≤ n ∧ i = .int .i64 k ∧ Below w.heap.size w wr ∧ wr.ownsRow w.heap.size 3 1 v (parK zs k).length (i64s (parK zs k))) (fun _ i _ => n - (intOf i).toNat)
      case atStart => exact ⟨0, Nat.zero_le _, rfl, hbel, hst⟩
      case round =>
        obtain ⟨k, hk, rfl, hbw, hown⟩ := hrel
        clear hst hbel
        by_cases hlt : k < n
        · obtain ⟨ad, u, rfl, had, hu, hc⟩ := ((unhide HA).below hbw).reads.at_ hlt
          obtain ⟨z, hz, rfl⟩ := i64_at hu
          have hle := unhide HLE k
          by_cases hzn : z < (n : Int)
          · have HE := hide (unhide HY k z hz hzn)
            obtain ⟨P, hP⟩ : ∃ P, P = parK zs k := ⟨_, rfl⟩
            rw [← hP] at hown HE hle
            obtain ⟨l, hl9⟩ : ∃ l, l = P.length := ⟨_, rfl⟩
            rw [← hl9] at hown hle
            have HE2 := hide (show i64s P ++ [.int .i64 z] = i64s (parK zs (k + 1)) ∧ l + 1 = (parK zs (k + 1)).length by rw [unhide HE, List.length_append, hl9]; exact ⟨by unfold i64s; simp, rfl⟩)
            clear hu hz hP hl9 HE
            go_wp2_with (first
              | (at_builtin; refine wpList_append_one rfl (.tmp 29) (.tmp 34) 22 rfl w.heap.size 3 i0 (.int .i64 0) 8 Try.underlying22 hi hz0 hz1 hz2 rfl w wr _ _ _ rfl hown (.int .i64 z) rfl rfl rfl (by omega) (by simp only [maxLen]; omega) hbw hbw.size ?_; intro v2 w2 hown2 hb2 hg2; clear hg2))
            rw [(unhide HE2).1, (unhide HE2).2] at hown2
            clear hown hbw hc
            go_roundw
            case rel => exact ⟨k + 1, by omega, by go_num, hb2, hown2⟩
            case measure => simp [intOf]; omega
          · have HE := hide (unhide HN k z hz (by omega))
            rw [← unhide HE] at hown
            clear hu hz
            go_wp2
            go_roundw
            case rel => exact ⟨k + 1, by omega, by go_num, hbw, hown⟩
            case measure => simp [intOf]; omega
        · obtain rfl : n = k := by omega
          have hI := hide (show Ints wr w.heap.size u4 (parL zs) by rw [← unhide HEND]; exact Ints.of_own hown)
          clear hown
          go_wp2
          go_ret2
          exact GivesIB.mk true (unhide hI) hbw
end Go.Proofs.Ythndeaodpjelgaa


/-
  PLAIN: occurrences some of whose places are side by side. Nothing here speaks of the program.
-/

namespace Go.Proofs.Ythndeaodpjelgaa
set_option maxRecDepth 100000

/-- A permutation, and numbers of places that are joined with the next one. -/
def nearOK (q J : List Int) : Bool := isP q && decide (PlOK (q.length - 1) J)
theorem nearOK_iff {q J : List Int} : nearOK q J = true ↔ isP q = true ∧ PlOK (q.length - 1) J := by
  unfold nearOK; rw [Bool.and_eq_true, decide_eq_true_eq]
/-- The joined places are side by side. -/
def fitJ (J pl : List Int) : Bool := J.all fun j => decide (at0 pl j.toNat = at0 pl (j.toNat - 1) + 1)
theorem fitJ_iff {J pl : List Int} : fitJ J pl = true ↔ ∀ j ∈ J, at0 pl j.toNat = at0 pl (j.toNat - 1) + 1 := by
  unfold fitJ
  simp only [List.all_eq_true, decide_eq_true_eq]
theorem fitJ_nil (pl : List Int) : fitJ [] pl = true := rfl
/-- The occurrences of a Near. -/
def nearR (p q J : List Int) : List (List Int) := (occR p q).filter (fitJ J)
def numNear (p q J : List Int) : Int := if isP p && nearOK q J then ((nearR p q J).length : Int) else -1
theorem numNear_yes {p q J : List Int} (hp : isP p = true) (h : nearOK q J = true) : numNear p q J = ((nearR p q J).length : Int) := by unfold numNear; rw [if_pos (by simp [hp, h])]
theorem numNear_no {p q J : List Int} (h : isP p = false ∨ nearOK q J = false) : numNear p q J = -1 := by
  unfold numNear
  rw [if_neg (by rcases h with h | h <;> simp [h])]
theorem nearOK_nil {q : List Int} (hq : isP q = true) : nearOK q [] = true := nearOK_iff.2 ⟨hq, PlOK.nil _⟩
theorem near_plain (p q : List Int) : nearR p q [] = occR p q := List.filter_eq_self.2 fun _ _ => rfl
theorem near_le (p q J : List Int) : (nearR p q J).length ≤ (occR p q).length := List.length_filter_le _ _
theorem near_nodup (p q J : List Int) : (nearR p q J).Nodup := (asc_nodup (occ_asc p q)).sublist List.filter_sublist

/-! the reverse -/
theorem plRev_at {n : Nat} {pl : List Int} {i : Nat} (h : i < pl.length) : at0 (plRev n pl) i = (n : Int) + 1 - at0 pl (pl.length - 1 - i) := by
  unfold plRev
  rw [at0_rev (by rw [List.length_map]; exact h), List.length_map]
  exact at0_of (by rw [List.getElem?_map, at0_some (by omega)]; rfl)
theorem fit_rev {n : Nat} {J pl : List Int} (hJ : PlOK (pl.length - 1) J) (hf : fitJ J pl = true) : fitJ (plRev (pl.length - 1) J) (plRev n pl) = true := by
  rw [fitJ_iff] at hf ⊢
  intro j hj
  unfold plRev at hj
  rw [List.mem_reverse, List.mem_map] at hj
  obtain ⟨x, hx, rfl⟩ := hj
  have hr := hJ.1 x hx
  have h1 := hf x hx
  rw [plRev_at (by omega), plRev_at (by omega)]
  rw [show pl.length - 1 - (((pl.length - 1 : Nat) : Int) + 1 - x).toNat = x.toNat - 1 by omega, show pl.length - 1 - ((((pl.length - 1 : Nat) : Int) + 1 - x).toNat - 1) = x.toNat by omega]
  omega
theorem near_rev_le {p q J : List Int} (hJ : PlOK (q.length - 1) J) : (nearR p q J).length ≤ (nearR p.reverse q.reverse (plRev (q.length - 1) J)).length :=
  inject_le (plRev p.length) (near_nodup p q J) (fun pl h => by
    unfold nearR at h ⊢
    rw [List.mem_filter] at h ⊢
    have hl := (isOcc_iff.1 (mem_occ.1 h.1)).2.2.1
    exact ⟨occ_rev h.1, by rw [← hl] at hJ ⊢; exact fit_rev hJ h.2⟩) fun x _ y _ e => by rw [← plRev_back p.length x, e, plRev_back]
theorem near_rev {p q J : List Int} (hJ : PlOK (q.length - 1) J) : (nearR p.reverse q.reverse (plRev (q.length - 1) J)).length = (nearR p q J).length := by
  have h1 := near_rev_le (p := p) (q := q) hJ
  have h2 := near_rev_le (p := p.reverse) (q := q.reverse) (J := plRev (q.length - 1) J) (by rw [List.length_reverse]; exact plRev_ok hJ)
  rw [List.reverse_reverse, List.reverse_reverse, List.length_reverse, plRev_back] at h2
  omega

/-! all places joined -/
def conJ (n : Nat) : List Int := (List.range (n - 1)).map fun (i : Nat) => (i : Int) + 1
theorem conJ_mem {n : Nat} {j : Int} : j ∈ conJ n ↔ 1 ≤ j ∧ j ≤ ((n - 1 : Nat) : Int) := by
  unfold conJ
  rw [List.mem_map]
  constructor
  · rintro ⟨i, hi, rfl⟩
    rw [List.mem_range] at hi
    omega
  · rintro ⟨h1, h2⟩
    exact ⟨j.toNat - 1, List.mem_range.2 (by omega), by omega⟩
theorem conJ_ok (n : Nat) : PlOK (n - 1) (conJ n) := by
  refine ⟨fun x hx => by have := conJ_mem.1 hx; omega, ?_⟩
  unfold conJ
  rw [List.pairwise_map]
  exact List.pairwise_lt_range.imp fun h => by omega
theorem con_near {q : List Int} (hq : isP q = true) : nearOK q (conJ q.length) = true := nearOK_iff.2 ⟨hq, conJ_ok _⟩
/-- Places in a run. -/
def runPl (k m : Nat) : List Int := (List.range m).map fun (i : Nat) => ((k + i : Nat) : Int) + 1
theorem runPl_length (k m : Nat) : (runPl k m).length = m := by simp [runPl]
theorem runPl_at {k m i : Nat} (h : i < m) : at0 (runPl k m) i = ((k + i : Nat) : Int) + 1 := at0_of (by unfold runPl; rw [List.getElem?_map, List.getElem?_range h]; rfl)
theorem runPl_ok {k m n : Nat} (h : k + m ≤ n) : PlOK n (runPl k m) := by
  constructor
  · intro x hx
    unfold runPl at hx
    rw [List.mem_map] at hx
    obtain ⟨i, hi, rfl⟩ := hx
    rw [List.mem_range] at hi
    omega
  · unfold runPl
    rw [List.pairwise_map]
    exact List.pairwise_lt_range.imp fun h => by omega
theorem runPl_nums {p : List Int} {k m : Nat} (h : k + m ≤ p.length) : nums p (runPl k m) = (p.drop k).take m := by
  refine ext_at0 (by rw [nums_length, runPl_length, List.length_take, List.length_drop]; omega) fun i hi => ?_
  rw [nums_length, runPl_length] at hi
  rw [nums_at0 (by rw [runPl_length]; exact hi), runPl_at hi]
  refine (at0_of ?_).symm
  rw [List.getElem?_take, if_pos hi, List.getElem?_drop, at0_some (by omega)]
  congr 2
theorem runPl_fit (k m : Nat) : fitJ (conJ m) (runPl k m) = true := by
  rw [fitJ_iff]
  intro j hj
  have := conJ_mem.1 hj
  rw [runPl_at (by omega), runPl_at (by omega)]
  omega
theorem fit_run {pl : List Int} {n : Nat} (hok : PlOK n pl) (h0 : 0 < pl.length) (hf : fitJ (conJ pl.length) pl = true) : pl = runPl ((at0 pl 0).toNat - 1) pl.length ∧ (at0 pl 0).toNat - 1 + pl.length ≤ n := by
  rw [fitJ_iff] at hf
  have h1 := hok.rng h0
  have key : ∀ i, i < pl.length → at0 pl i = at0 pl 0 + (i : Int) := by
    intro i
    induction i with
    | zero => intro _; simp
    | succ i ih =>
      intro hi
      have h2 := hf ((i : Int) + 1) (conJ_mem.2 (by omega))
      rw [show ((i : Int) + 1).toNat = i + 1 by omega, Nat.add_sub_cancel, ih (by omega)] at h2
      rw [h2]; omega
  refine ⟨ext_at0 (by rw [runPl_length]) fun i hi => by rw [runPl_at hi, key i hi]; omega, ?_⟩
  have h3 := key (pl.length - 1) (by omega)
  have h4 := hok.rng (i := pl.length - 1) (by omega)
  omega
/-- The beginnings of the runs with this pattern, among the first k. -/
def runK (p q : List Int) (k : Nat) : List Nat := (List.range k).filter fun i => decide (patL ((p.drop i).take q.length) = q)
def runN (p q : List Int) : Nat := (runK p q (p.length + 1 - q.length)).length
theorem near_runs {p q : List Int} (hp : isP p = true) (hq : isP q = true) (h0 : 0 < q.length) : (nearR p q (conJ q.length)).length = runN p q := by
  have hin : ∀ pl, pl ∈ nearR p q (conJ q.length) ↔ pl ∈ (runK p q (p.length + 1 - q.length)).map fun k => runPl k q.length := by
    intro pl
    unfold nearR
    rw [List.mem_filter, mem_occ, isOcc_iff, List.mem_map]
    constructor
    · rintro ⟨⟨_, _, h1, h2, h3⟩, h4⟩
      rw [← h1] at h4
      obtain ⟨h5, h6⟩ := fit_run h2 (by omega) h4
      refine ⟨(at0 pl 0).toNat - 1, ?_, by rw [← h1]; exact h5.symm⟩
      unfold runK
      rw [List.mem_filter, List.mem_range, decide_eq_true_eq, ← runPl_nums (by omega), ← h1, ← h5]
      exact ⟨by omega, h3.trans rfl⟩
    · rintro ⟨k, hk, rfl⟩
      unfold runK at hk
      rw [List.mem_filter, List.mem_range, decide_eq_true_eq] at hk
      exact ⟨⟨hp, hq, runPl_length _ _, runPl_ok (by omega), by rw [runPl_nums (by omega)]; exact hk.2⟩, runPl_fit _ _⟩
  have hnd : ((runK p q (p.length + 1 - q.length)).map fun k => runPl k q.length).Nodup := by
    rw [List.nodup_iff_pairwise_ne, List.pairwise_map]
    refine ((List.pairwise_lt_range (n := p.length + 1 - q.length)).sublist (List.filter_sublist (p := fun i => decide (patL ((p.drop i).take q.length) = q)))).imp fun {a b} hab e => ?_
    have h1 := congrArg (fun l => at0 l 0) e
    simp only [runPl_at h0] at h1
    omega
  have h1 := pigeonL_le (near_nodup p q (conJ q.length)) fun x hx => (hin x).1 hx
  have h2 := pigeonL_le hnd fun x hx => (hin x).2 hx
  rw [List.length_map] at h1 h2
  unfold runN
  omega
end Go.Proofs.Ythndeaodpjelgaa


/-
  spec.l4Fit, spec.l4Join, spec.SumOf, spec.SkewSumOf, by their contracts.
-/

namespace Go.Proofs.Ythndeaodpjelgaa
set_option maxRecDepth 100000
open Go.RowKit

def bitI (b : Bool) : Int := if b then 1 else 0
theorem joinL_at1 {s : Bool} {p q : List Int} {k : Nat} {z : Int} (h : p[k]? = some z) : (joinL s p q)[k]? = some (z + bitI s * (q.length : Int)) := by
  have hk : k < p.length := (List.getElem?_eq_some_iff.1 h).1
  cases s with
  | true =>
    simp only [joinL, if_true, bitI]
    rw [List.getElem?_append_left (by simpa using hk), List.getElem?_map, h, Int.one_mul]; rfl
  | false =>
    simp only [joinL, bitI, Bool.false_eq_true, if_false]
    rw [List.getElem?_append_left hk, h, Int.zero_mul, Int.add_zero]
theorem joinL_at2 {s : Bool} {p q : List Int} {k : Nat} {z : Int} (h : q[k]? = some z) : (joinL s p q)[p.length + k]? = some (z + bitI (!s) * (p.length : Int)) := by
  cases s with
  | true =>
    simp only [joinL, if_true, bitI, Bool.not_true, Bool.false_eq_true, if_false]
    rw [List.getElem?_append_right (by simp), List.length_map, Nat.add_sub_cancel_left, h, Int.zero_mul, Int.add_zero]
  | false =>
    simp only [joinL, bitI, Bool.not_false, if_true, Bool.false_eq_true, if_false]
    rw [List.getElem?_append_right (by omega), Nat.add_sub_cancel_left, List.getElem?_map, h, Int.one_mul]; rfl
theorem bit_le (s : Bool) (n : Nat) : 0 ≤ bitI s * (n : Int) ∧ bitI s * (n : Int) ≤ n := by
  cases s
  · simp [bitI]
  · simp [bitI]

theorem keep_low {B : Nat} {wr w : World} {p : Addr} {v : Value} (h : wr.cell? p = some v) (hp : p.block < B) (hb : Below B wr w) : w.cell? p = some v ∧ Below B wr w := ⟨(hb.cell hp).trans h, hb⟩
end Go.Proofs.Ythndeaodpjelgaa


/-
  spec.CountRuns, by its contract.
-/

namespace Go.Proofs.Ythndeaodpjelgaa
set_option maxRecDepth 100000
open Go.RowKit

def numRun (p q : List Int) : Int := if isP p && isP q && decide (q.length ≠ 0) then (runN p q : Int) else -1
theorem runK_step (p q : List Int) (k : Nat) : (runK p q (k + 1)).length = (runK p q k).length + (if patL ((p.drop k).take q.length) = q then 1 else 0) := by
  unfold runK
  rw [List.range_succ, List.filter_append, List.length_append]
  congr 1
  by_cases h : patL ((p.drop k).take q.length) = q
  · rw [if_pos h, List.filter_cons_of_pos (by simp [h])]; rfl
  · rw [if_neg h, List.filter_cons_of_neg (by simp [h])]; rfl
theorem runK_le (p q : List Int) (k : Nat) : (runK p q k).length ≤ k := by
  unfold runK
  have := List.length_filter_le (fun i => decide (patL ((p.drop i).take q.length) = q)) (List.range k)
  rwa [List.length_range] at this
theorem patL_small8 {l : List Int} (h : l.length ≤ 1048576) : Small (patL l) := fun z hz => by have := patL_range z hz; omega
end Go.Proofs.Ythndeaodpjelgaa


/-
  PLAIN: overlaps, alternating permutations, choices, permutations without a run. Nothing here speaks of the program.
-/

namespace Go.Proofs.Ythndeaodpjelgaa
set_option maxRecDepth 100000

/-! the runs of the reverse -/
theorem plRev_con (n : Nat) : plRev (n - 1) (conJ n) = conJ n := by
  refine ext_at0 (by unfold plRev conJ; simp) fun i hi => ?_
  have hi' : i < n - 1 := by unfold plRev conJ at hi; simpa using hi
  have hl : (conJ n).length = n - 1 := by unfold conJ; simp
  have ha : ∀ j, j < n - 1 → at0 (conJ n) j = (j : Int) + 1 := fun j hj => at0_of (by unfold conJ; rw [List.getElem?_map, List.getElem?_range hj]; rfl)
  rw [plRev_at (by omega), hl, ha _ (by omega), ha _ (by omega)]
  omega
theorem runN_rev {p q : List Int} (hp : isP p = true) (hq : isP q = true) (h0 : 0 < q.length) : runN p.reverse q.reverse = runN p q := by
  rw [← near_runs hp hq h0, ← near_runs (isP_rev hp) (isP_rev hq) (by rw [List.length_reverse]; exact h0), List.length_reverse]
  have h := near_rev (p := p) (q := q) (conJ_ok q.length)
  rw [plRev_con] at h
  exact h

/-! overlaps -/
def ovl (q : List Int) (k : Nat) : Bool := decide (patL (q.take k) = patL (q.drop (q.length - k)))
def ovlK (q : List Int) (m : Nat) : List Int := ((List.range m).filter fun i => ovl q (i + 1)).map fun (i : Nat) => (i : Int) + 1
def ovlR (q : List Int) : List Int := if isP q then ovlK q (q.length - 1) else []
theorem ovlK_step (q : List Int) (m : Nat) : ovlK q (m + 1) = ovlK q m ++ (if ovl q (m + 1) then [(m : Int) + 1] else []) := by
  unfold ovlK
  rw [List.range_succ, List.filter_append, List.map_append]
  congr 1
  by_cases h : ovl q (m + 1) = true
  · rw [if_pos h, List.filter_cons_of_pos (p := fun i => ovl q (i + 1)) h]; rfl
  · rw [if_neg h, List.filter_cons_of_neg (p := fun i => ovl q (i + 1)) h]; rfl
theorem ovlK_le (q : List Int) (m : Nat) : (ovlK q m).length ≤ m := by
  unfold ovlK
  rw [List.length_map]
  have := List.length_filter_le (fun i => ovl q (i + 1)) (List.range m)
  rwa [List.length_range] at this
theorem ovlR_yes {q : List Int} (h : isP q = true) : ovlR q = ovlK q (q.length - 1) := by unfold ovlR; rw [if_pos h]
theorem ovlR_no {q : List Int} (h : isP q = false) : ovlR q = [] := by unfold ovlR; rw [if_neg (by simp [h])]
theorem ovlR_le (q : List Int) : (ovlR q).length ≤ 8 := by
  cases h : isP q with
  | true => rw [ovlR_yes h]; have := ovlK_le q (q.length - 1); have := isP_le h; omega
  | false => rw [ovlR_no h]; simp
theorem ovlK_small (q : List Int) (m : Nat) (hm : m ≤ 8) : ∀ z ∈ ovlK q m, 1 ≤ z ∧ z ≤ 8 := fun z hz => by
  unfold ovlK at hz
  rw [List.mem_map] at hz
  obtain ⟨i, hi, rfl⟩ := hz
  have := List.mem_range.1 (List.mem_filter.1 hi).1
  omega
theorem ovlR_small (q : List Int) : ∀ z ∈ ovlR q, 1 ≤ z ∧ z ≤ 8 := by
  cases h : isP q with
  | true => rw [ovlR_yes h]; exact ovlK_small q _ (by have := isP_le h; omega)
  | false => rw [ovlR_no h]; simp
def looseR (q : List Int) : Bool := decide ((ovlR q).length = 1)

/-! alternating permutations -/
/-- A descent at each odd place, an ascent at each even one. -/
def altAt (p : List Int) (i : Nat) : Bool := decide (at0 p i < at0 p (i - 1)) == decide (i % 2 = 1)
def altK (p : List Int) (m : Nat) : Bool := (List.range m).all fun i => altAt p (i + 1)
def altR (p : List Int) : Bool := isP p && altK p (p.length - 1)
theorem altK_step (p : List Int) (m : Nat) : altK p (m + 1) = (altK p m && altAt p (m + 1)) := by
  unfold altK
  rw [List.range_succ, List.all_append]
  simp
theorem altK_no {p : List Int} {i m : Nat} (h : altAt p (i + 1) = false) (hi : i < m) : altK p m = false := by
  unfold altK
  rw [List.all_eq_false]
  exact ⟨i, List.mem_range.2 hi, by rw [h]; simp⟩

/-! choices -/
def choN (n : Nat) : Nat → Nat
  | 0 => 1
  | i + 1 => choN n i * (n - i) / (i + 1)
theorem choN_small : ∀ n : Nat, n ≤ 40 → ∀ i : Nat, i ≤ n → choN n i ≤ 137846528820 := by decide +kernel
def choZ (n k : Int) : Int := if 0 ≤ n ∧ n ≤ 40 ∧ 0 ≤ k ∧ k ≤ n then (choN n.toNat k.toNat : Int) else 0
theorem choZ_yes {n k : Nat} (h : n ≤ 40) (h' : k ≤ n) : choZ n k = (choN n k : Int) := by unfold choZ; rw [if_pos (by omega), Int.toNat_natCast, Int.toNat_natCast]
theorem choZ_no {n k : Int} (h : ¬ (0 ≤ n ∧ n ≤ 40 ∧ 0 ≤ k ∧ k ≤ n)) : choZ n k = 0 := by unfold choZ; rw [if_neg h]

/-! how many are alternating -/
def altN (n : Nat) : Nat := [1, 1, 1, 2, 5, 16, 61, 272, 1385, 7936, 50521, 353792, 2702765].getD n 0
def altS (m : Nat) : Nat → Nat
  | 0 => 0
  | k + 1 => altS m k + choN m k * altN k * altN (m - k)
theorem altS_half : ∀ m : Nat, m ≤ 11 → 1 ≤ m → altS m (m + 1) / 2 = altN (m + 1) := by decide +kernel
theorem altS_small : ∀ m : Nat, m ≤ 11 → ∀ k : Nat, k ≤ m + 1 → altS m k ≤ 10000000 := by decide +kernel
theorem altP_small : ∀ m : Nat, m ≤ 11 → ∀ k : Nat, k ≤ m → choN m k ≤ 10000000 ∧ altN k ≤ 10000000 ∧ altN (m - k) ≤ 10000000 ∧ choN m k * altN k ≤ 10000000 ∧ choN m k * altN k * altN (m - k) ≤ 10000000 := by decide +kernel
theorem altN_small : ∀ n : Nat, n ≤ 12 → altN n ≤ 2702765 := by decide
def altZ (n : Int) : Int := if 0 ≤ n ∧ n ≤ 12 then (altN n.toNat : Int) else -1
theorem altZ_yes {n : Nat} (h : n ≤ 12) : altZ n = (altN n : Int) := by unfold altZ; rw [if_pos (by omega), Int.toNat_natCast]
theorem altZ_no {n : Int} (h : ¬ (0 ≤ n ∧ n ≤ 12)) : altZ n = -1 := by unfold altZ; rw [if_neg h]
/-- .. among the permutations of a length. -/
theorem alt_count : ∀ n : Nat, n ≤ 5 → ((permL n).filter altR).length = altN n := by decide +kernel
def altC (zss : List (List Int)) (k : Nat) : Nat := ((zss.take k).filter altR).length
theorem altC_step {zss : List (List Int)} {k : Nat} {z : List Int} (h : zss[k]? = some z) : altC zss (k + 1) = altC zss k + if altR z then 1 else 0 := by
  unfold altC
  rw [List.take_add_one, h, List.filter_append, List.length_append]
  congr 1
  by_cases e : altR z = true
  · rw [if_pos e]; simp [e]
  · rw [if_neg e]; simp [e]
theorem altC_le (zss : List (List Int)) (k : Nat) : altC zss k ≤ k := by
  unfold altC
  have h1 := List.length_filter_le altR (zss.take k)
  have := List.length_take_le k zss
  omega
theorem altC_all {n : Nat} (h : n ≤ 5) : altC (permL n) (permL n).length = altN n := by
  unfold altC
  rw [List.take_of_length_le (Nat.le_refl _)]
  exact alt_count n h

/-! permutations without a run -/
theorem permL_isP6 : ∀ n : Nat, n ≤ 6 → ∀ r ∈ permL n, isP r = true := by decide +kernel
theorem permL_nodup5 : ∀ n : Nat, n ≤ 5 → (permL n).Nodup := by decide +kernel
theorem permL_rev5 : ∀ n : Nat, n ≤ 5 → ∀ r ∈ permL n, r.reverse ∈ permL n := by decide +kernel
def noRun (q p : List Int) : Bool := decide (runN p q = 0)
def avK (q : List Int) (zss : List (List Int)) (k : Nat) : Nat := ((zss.take k).filter (noRun q)).length
theorem avK_step {q : List Int} {zss : List (List Int)} {k : Nat} {z : List Int} (h : zss[k]? = some z) : avK q zss (k + 1) = avK q zss k + if runN z q = 0 then 1 else 0 := by
  unfold avK
  rw [List.take_add_one, h, List.filter_append, List.length_append]
  congr 1
  by_cases e : runN z q = 0
  · rw [if_pos e]; simp [noRun, e]
  · rw [if_neg e]; simp [noRun, e]
theorem avK_le (q : List Int) (zss : List (List Int)) (k : Nat) : avK q zss k ≤ k := by
  unfold avK
  have h1 := List.length_filter_le (noRun q) (zss.take k)
  have := List.length_take_le k zss
  omega
def avR (n : Int) (q : List Int) : Int := if (0 ≤ n ∧ n ≤ 6) ∧ isP q = true ∧ q.length ≠ 0 then (avK q (permL n.toNat) (permL n.toNat).length : Int) else -1
theorem avR_yes {n : Nat} {q : List Int} (h : n ≤ 6) (hq : isP q = true) (h0 : q.length ≠ 0) : avR n q = (avK q (permL n) (permL n).length : Int) := by unfold avR; rw [if_pos ⟨by omega, hq, h0⟩, Int.toNat_natCast]
theorem avR_no {n : Int} {q : List Int} (h : ¬ ((0 ≤ n ∧ n ≤ 6) ∧ isP q = true ∧ q.length ≠ 0)) : avR n q = -1 := by unfold avR; rw [if_neg h]
theorem av_rev_le {n : Nat} {q : List Int} (h : n ≤ 5) (hq : isP q = true) (h0 : 0 < q.length) : ((permL n).filter (noRun q)).length ≤ ((permL n).filter (noRun q.reverse)).length :=
  inject_le List.reverse ((permL_nodup5 n h).sublist List.filter_sublist) (fun p hp => by
    rw [List.mem_filter] at hp ⊢
    refine ⟨permL_rev5 n h p hp.1, ?_⟩
    have h1 := runN_rev (permL_isP6 n (by omega) p hp.1) hq h0
    unfold noRun at hp ⊢
    rw [h1]
    exact hp.2) fun x _ y _ e => by rw [← List.reverse_reverse x, e, List.reverse_reverse]
theorem av_rev {n : Int} {q : List Int} (h0 : 0 ≤ n) (h : n ≤ 5) (hl : 0 < q.length) : avR n (revR q) = avR n q := by
  obtain ⟨n, rfl⟩ : ∃ m : Nat, n = m := ⟨n.toNat, by omega⟩
  cases hq : isP q with
  | false => rw [revR_no hq, avR_no (by simp), avR_no (by simp [hq])]
  | true =>
    have hr := isP_rev hq
    rw [revR_yes hq, avR_yes (by omega) hr (by rw [List.length_reverse]; omega), avR_yes (by omega) hq (by omega)]
    unfold avK
    rw [List.take_of_length_le (Nat.le_refl _)]
    have h1 := av_rev_le (n := n) (by omega) hq hl
    have h2 := av_rev_le (n := n) (by omega) hr (by rw [List.length_reverse]; exact hl)
    rw [List.reverse_reverse] at h2
    omega
end Go.Proofs.Ythndeaodpjelgaa


/-
  impl.samePattern, impl.CountRuns and impl.OverlapsOf, impl.IsLoose, by their contracts.
-/

namespace Go.Proofs.Ythndeaodpjelgaa
set_option maxRecDepth 100000
open Go.RowKit

theorem patR_small (l : List Int) : Small (patR l) := fun z hz => by
  have h1 := patR_le l
  cases h : patOK l with
  | true =>
    rw [patR_yes h] at hz h1
    rw [patL_length] at h1
    have := patL_range z hz
    omega
  | false => rw [patR_no h] at hz; cases hz
theorem run_patOK {p : List Int} (hp : isP p = true) {s : List Int} (hs : s.Sublist p) : patOK s = true := patOK_yes (Nat.le_trans hs.length_le (isP_le hp)) ((isP_true.1 hp).2.2.sublist hs)
theorem run_same {p q s : List Int} (hp : isP p = true) (hq : isP q = true) (hs : s.Sublist p) : decide (patR s = patR q) = decide (patL s = q) := by
  rw [patR_yes (run_patOK hp hs), patR_yes (run_patOK hq (List.Sublist.refl q)), patL_self hq]
theorem ovl_same {q : List Int} (hq : isP q = true) (k : Nat) : decide (patR (q.take k) = patR (q.drop (q.length - k))) = ovl q k := by
  rw [patR_yes (run_patOK hq (List.take_sublist _ _)), patR_yes (run_patOK hq (List.drop_sublist _ _))]
  rfl
theorem below_same {w : World} : Below w.heap.size w w := Below.refl _ _
theorem ownNil (w : World) (B : Nat) (e : TypeId) : w.ownsRow B e 1 (.slice none 0 0) 0 [] := ⟨rfl, .inl ⟨rfl, rfl⟩⟩
/-- The beginning of a list, and its end, as arguments. -/
theorem Arg.front {w : World} {B n c k : Nat} {A : Option Addr} {zs : List Int} (h : Arg w B A n c zs) (hk : k ≤ n) : Arg w B A k c (zs.take k) :=
  ⟨h.reads.pre hk, h.under, Nat.le_trans hk h.le, Nat.le_trans hk h.cap, fun z hz => h.small z (List.mem_of_mem_take hz), h.nil⟩
theorem Arg.back {w : World} {B n c f : Nat} {ad : Addr} {zs : List Int} (h : Arg w B (some ad) n c zs) (hf : f ≤ n) : Arg w B (some (ad.add f)) (n - f) (c - f) (zs.drop f) := by
  have h1 := h.cut (f := f) (m := n - f) (by omega)
  rwa [List.take_of_length_le (by rw [List.length_drop]; have := h.len; omega)] at h1
end Go.Proofs.Ythndeaodpjelgaa


/-
  slices.Grow of nil, slices.Concat of two lists; impl.isPlace, impl.WithoutPlace.
-/

namespace Go.Proofs.Ythndeaodpjelgaa
set_option maxRecDepth 100000
open Go.RowKit

set_option maxHeartbeats 800000 in
theorem grow_any (m : Nat) (hm : m ≤ 1000) (w : World) :
    Calls Try.prog 25 #[.slice none 0 0, .int .i64 m] w fun e w' => ∃ A c, e = .returned (.slice A 0 c) ∧ w'.ownsRow w.heap.size 3 1 (.slice A 0 c) 0 [] ∧ Below w.heap.size w w' := by
  obtain ⟨i0, hi, hz0, hz1, hz2⟩ := info_parts intInfo
  have hn0 : ¬ ((m : Int) < 0) := by omega
  by_cases h0 : m = 0
  · subst h0
    go_enter Try.func25, Try.ntmps25
    go_wp2
    go_ret
    exact ⟨none, 0, rfl, World.ownsRow_nil _ _ _ _, Below.refl _ _⟩
  · have hpos : 0 < (m : Int) := by omega
    have hwr : IntKind.i64.wrap (m : Int) = (m : Int) := by rw [IntKind.wrap_i64]; omega
    have hrun := Lib.run_append_nil_zeros (P := Try.prog) w 22 3 22 3 i0 (.int .i64 0) .i64 .i64 Try.underlying22 Try.underlying3 hi hz0 m (by omega) (by omega) (by omega) (by rw [hz2]; omega)
    have hge := grownCap_ge w m 0 3
    have hle := grownCap_le_maxLen w m 0 3 (by unfold maxLen; omega)
    obtain ⟨C, hC⟩ : ∃ C, C = grownCap w m 0 3 := ⟨_, rfl⟩
    rw [← hC] at hrun hge hle
    obtain ⟨cur, hcur⟩ : ∃ cur, cur = Builtin.zeroCells (Value.int .i64 0).cells m ++ Builtin.zeroCells (Value.int .i64 0).cells (C - m) := ⟨_, rfl⟩
    have hcs : cur.size = C := by
      rw [hcur, Array.size_append, size_zeroCells, size_zeroCells]
      simp [Value.cells]
      omega
    rw [← hcur] at hrun
    obtain ⟨w3, hw3⟩ : ∃ w3, w3 = w.drew.alloc (.cells cur 3) := ⟨_, rfl⟩
    rw [← hw3] at hrun
    have hown : w3.ownsRow w.heap.size 3 1 (.slice (some ⟨w.heap.size, 0, none⟩) 0 C) 0 [] :=
      ⟨rfl, .inr ⟨w.heap.size, C, cur, rfl, Nat.le_refl _, by rw [hw3]; exact heap_alloc_new w.drew _, Nat.zero_le _, hle, by omega, by simp⟩⟩
    have hb : Below w.heap.size w w3 := by rw [hw3]; exact (below_drew _ w).alloc (Nat.le_refl _) _
    have h0C : (0 : Int) ≤ (C : Int) := by omega
    clear hw3 hC hcur
    go_enter Try.func25, Try.ntmps25
    go_wp2_with (first
      | (at_builtin; refine Lib.wpList_append_run _ rfl _ _ _ _ rfl _ _ rfl rfl _ _ hrun ?_))
    go_ret
    exact ⟨some ⟨w.heap.size, 0, none⟩, C, rfl, hown, hb⟩
set_option maxHeartbeats 1600000 in
theorem concat2_any (gs : Nat) (A1 A2 : Option Addr) (n1 c1 B1 n2 c2 B2 : Nat) (xs ys : List Int) (w : World) (hc0 : w.cell? ⟨gs, 0, none⟩ = some (.slice A1 n1 c1)) (hc1 : w.cell? ⟨gs, 1, none⟩ = some (.slice A2 n2 c2))
    (h1 : Arg w B1 A1 n1 c1 xs) (h2 : Arg w B2 A2 n2 c2 ys) (hn1 : n1 ≤ 400) (hn2 : n2 ≤ 400) :
    Calls Try.prog 22 #[.slice (some ⟨gs, 0, none⟩) 2 2] w (GivesI w (xs ++ ys)) := by
  have hw1 : IntKind.i64.wrap ((0 : Int) + (n1 : Int)) = (n1 : Int) := by rw [IntKind.wrap_i64]; omega
  have hw1' : IntKind.i64.wrap (n1 : Int) = (n1 : Int) := by rw [IntKind.wrap_i64]; omega
  have hw2 : IntKind.i64.wrap ((n1 : Int) + (n2 : Int)) = (n1 : Int) + (n2 : Int) := by rw [IntKind.wrap_i64]; omega
  have hp1 : ¬ ((n1 : Int) < 0) := by omega
  have hp2 : ¬ ((n1 : Int) + (n2 : Int) < 0) := by omega
  have HG := hide (show ∀ w', Calls Try.prog 25 #[.slice none 0 0, .int .i64 ((n1 : Int) + (n2 : Int))] w' _ from fun w' => by
    have := grow_any (n1 + n2) (by omega) w'
    rw [Int.natCast_add] at this
    exact this)
  have hl1 := World.block_lt_of_cell? w _ hc0
  have HA := hide (⟨h1, h2⟩ : Arg w B1 A1 n1 c1 xs ∧ Arg w B2 A2 n2 c2 ys)
  clear h1 h2
  go_enter Try.func22, Try.ntmps22
  go_wp2
  go_loopw [3, 5, 11] (fun s _ i wr => wr = w ∧ ((i = .int .i64 0 ∧ s = .int .i64 0) ∨ (i = .int .i64 1 ∧ s = .int .i64 n1) ∨ (i = .int .i64 2 ∧ s = .int .i64 ((n1 : Int) + (n2 : Int))))) (fun _ _ i _ => 2 - (intOf i).toNat)
  case atStart => exact ⟨rfl, .inl ⟨rfl, rfl⟩⟩
  case round =>
    obtain ⟨hwr, hcase⟩ := hrel
    replace hwr := hwr.symm
    subst hwr
    rcases hcase with ⟨rfl, rfl⟩ | ⟨rfl, rfl⟩ | ⟨rfl, rfl⟩
    · go_wp2
      go_roundw
      case rel => exact ⟨trivial, .inr (.inl ⟨rfl, rfl⟩)⟩
      case measure => simp [intOf]
    · go_wp2
      go_roundw
      case rel => exact ⟨trivial, .inr (.inr ⟨rfl, rfl⟩)⟩
      case measure => simp [intOf]
    · go_wp2_with fail
      refine (unhide HG _).mono ?_
      rintro e w1 ⟨Av, cv, rfl, hown, hb1⟩
      clear HG
      go_wp2
      go_loopw [6, 8, 27] (fun s _ i wr => Below w.heap.size w wr ∧ ((i = .int .i64 0 ∧ wr.ownsRow w.heap.size 3 1 s 0 []) ∨ (i = .int .i64 1 ∧ wr.ownsRow w.heap.size 3 1 s n1 (i64s xs)) ∨ (i = .int .i64 2 ∧ wr.ownsRow w.heap.size 3 1 s (n1 + n2) (i64s (xs ++ ys))))) (fun _ _ i _ => 2 - (intOf i).toNat)
      case atStart => exact ⟨hb1, .inl ⟨rfl, hown⟩⟩
      case round =>
        obtain ⟨hb, hcase⟩ := hrel
        have hd0 := (hb.cell (p := ⟨gs, 0, none⟩) hl1).trans hc0
        have hd1 := (hb.cell (p := ⟨gs, 1, none⟩) hl1).trans hc1
        have hA1 := (unhide HA).1.below hb
        have hA2 := (unhide HA).2.below hb
        have hsz := hb.size
        clear hown hb1 hc0 hc1
        rcases hcase with ⟨rfl, hown⟩ | ⟨rfl, hown⟩ | ⟨rfl, hown⟩
        · go_wp2_with (first
            | (at_builtin; refine wpList_append_arg rfl (.tmp 31) (.tmp 32) rfl w.heap.size B1 0 n1 c1 w _ A1 [] xs rfl rfl hown hA1 (by omega) hb hsz ?_; intro v' w' hown2 hb2 hg2))
          go_roundw
          case rel => exact ⟨hb2, .inr (.inl ⟨rfl, by rw [Nat.zero_add, List.nil_append] at hown2; exact hown2⟩)⟩
          case measure => simp [intOf]
        · go_wp2_with (first
            | (at_builtin; refine wpList_append_arg rfl (.tmp 31) (.tmp 32) rfl w.heap.size B2 n1 n2 c2 w _ A2 xs ys rfl rfl hown hA2 (by omega) hb hsz ?_; intro v' w' hown2 hb2 hg2))
          go_roundw
          case rel => exact ⟨hb2, .inr (.inr ⟨rfl, hown2⟩)⟩
          case measure => simp [intOf]
        · have hI := Ints.of_own hown
          clear hown hA1 hA2
          go_wp2
          go_ret
          exact GivesI.mk hI hb
theorem iplace_any (A : Option Addr) (n c : Nat) (z : Int) (b : Bool) (hb : decide (1 ≤ z ∧ z ≤ (n : Int)) = b) (w : World) :
    Calls Try.prog 23 #[.slice A n c, .int .i64 z] w fun e w' => e = .returned (.bool b) ∧ w' = w := by
  by_cases h1 : 1 ≤ z
  · by_cases h2 : z ≤ (n : Int)
    · obtain rfl : b = true := by rw [← hb]; simp [h1, h2]
      clear hb
      go_enter Try.func23, Try.ntmps23
      go_wp2
      go_ret
      exact ⟨rfl, rfl⟩
    · obtain rfl : b = false := by rw [← hb]; simp [h2]
      clear hb
      go_enter Try.func23, Try.ntmps23
      go_wp2
      go_ret
      exact ⟨rfl, rfl⟩
  · obtain rfl : b = false := by rw [← hb]; simp [h1]
    clear hb
    go_enter Try.func23, Try.ntmps23
    go_wp2
    go_ret
    exact ⟨rfl, rfl⟩
set_option maxHeartbeats 1600000 in
theorem wpl_yes (A : Option Addr) (n c B : Nat) (zs : List Int) (k : Nat) (w : World) (h : Arg w B A n c zs) (hp : isP zs = true) (hk : k < n) :
    Calls Try.prog 18 #[.slice A n c, .int .i64 ((k : Int) + 1)] w (GivesIB w (patL (cutAt zs k)) true) := by
  have hl := h.len
  have hcap := h.cap
  have hn8 : n ≤ 8 := by have := isP_le hp; omega
  obtain ⟨ad, rfl⟩ : ∃ ad, A = some ad := by
    obtain ⟨ad, u, hA, _⟩ := h.reads.at_ hk
    exact ⟨ad, hA⟩
  have H1 := hide (iisperm_any (some ad) n c B zs true hp w h.reads h.under h.le h.small)
  have H2 := hide (fun w' => iplace_any (some ad) n c ((k : Int) + 1) true (decide_eq_true (by omega)) w')
  have hbd0 : (0 : Int) ≤ (k : Int) + 1 := by omega
  have hbd1 : (k : Int) + 1 ≤ (n : Int) := by omega
  have hbd2 : (k : Int) ≤ (c : Int) := by omega
  have hbd3 : (k : Int) + 1 ≤ (c : Int) := by omega
  have hbd4 : (n : Int) ≤ (c : Int) := by omega
  have hbd5 : (0 : Int) ≤ (k : Int) := by omega
  have hw1 : IntKind.i64.wrap ((k : Int) + 1 - 1) = (k : Int) := by rw [IntKind.wrap_i64]; omega
  have hw1' : IntKind.i64.wrap (k : Int) = (k : Int) := by rw [IntKind.wrap_i64]; omega
  have hok : patOK (cutAt zs k) = true := patOK_yes (by have := cutAt_len (p := zs) (k := k) (by omega); omega) ((isP_true.1 hp).2.2.sublist (cutAt_sub zs k))
  have hsm : Small (cutAt zs k) := fun z hz => h.small z ((cutAt_sub zs k).mem hz)
  have hcl := cutAt_len (p := zs) (k := k) (by omega)
  have hA1 : Arg w B (some ad) k c (zs.take k) := by
    have hA1 := h.cut (f := 0) (m := k) (by omega)
    rwa [show ad.add 0 = ad by unfold Addr.add; split <;> simp_all, Nat.sub_zero, List.drop_zero] at hA1
  have HOK := hide hok
  have HSM := hide hsm
  have HLEN := hide (show (cutAt zs k).length ≤ 1048576 from by omega)
  have hun := h.under
  clear hok hsm hcl
  by_cases hc : c = k + 1
  · obtain rfl := hc
    obtain rfl : n = k + 1 := by omega
    have hb6 : (k : Int) ≤ ((k + 1 : Nat) : Int) := by omega
    have hb7 : (k : Int) ≤ (k : Int) + 1 := by omega
    have hb8 : (k : Int) + 1 ≤ ((k + 1 : Nat) : Int) := by omega
    clear hbd1 hbd2 hbd3 hbd4
    have HCUT := hide (show zs.take k ++ ([] : List Int) = cutAt zs k from by unfold cutAt; rw [List.drop_of_length_le (by omega)])
    have hA2 : Arg w B (some ad) 0 0 ([] : List Int) := ⟨⟨rfl, fun h => by omega⟩, h.under, by omega, Nat.le_refl _, fun z hz => by simp at hz, fun h => by cases h⟩
    have HCC := hide (show ∀ w2, Below w.heap.size w w2 → Calls Try.prog 22 #[.slice (some ⟨w2.heap.size, 0, none⟩) 2 2] (w2.alloc (.cells #[.slice (some ad) k (k + 1), .slice (some ad) (0) (0)] 22)) (GivesI (w2.alloc (.cells #[.slice (some ad) k (k + 1), .slice (some ad) (0) (0)] 22)) (zs.take k ++ [])) from fun w2 d => by
      have d2 := (Below.refl w2.heap.size w2).alloc (Nat.le_refl _) (.cells #[.slice (some ad) k (k + 1), .slice (some ad) (0) (0)] 22)
      have hW := Whole.new w2 22 #[.slice (some ad) k (k + 1), .slice (some ad) (0) (0)]
      exact concat2_any w2.heap.size (some ad) (some ad) k (k + 1) B (0) (0) B _ _ _ (hW.cell 0) (hW.cell 1) ((hA1.below d).below d2) ((hA2.below d).below d2) (by omega) (by omega))
    clear h hl hcap hp
    clear hA1 hA2
    go_enter Try.func18, Try.ntmps18
    go_wp2_with fail
    refine (unhide H1).mono ?_
    rintro e w1 ⟨rfl, d1⟩
    clear H1
    go_wp2_with fail
    refine (unhide H2 w1).mono ?_
    rintro e w1' ⟨rfl, rfl⟩
    clear H2
    have dd := below_after d1 (below_drew _ w1')
    have HC := hide (unhide HCC w1'.drew dd)
    have dal := (Below.refl w1'.drew.heap.size w1'.drew).alloc (Nat.le_refl _) (.cells #[.slice (some ad) k (k + 1), .slice (some ad) (0) (0)] 22)
    have dda := below_after dd dal
    clear HCC d1
    go_wp2
    go_region_held3 (fun _ => True) (trivial)
      (first
        | (go_simp; go_at_call 22; refine (unhide HC).mono ?_; rintro e w4 ⟨A4, c4, rfl, o4, d4⟩; have e4 := unhide HCUT; rw [e4] at o4 ⊢; have H5 := hide (ipat_any A4 _ c4 _ (cutAt zs k) true (unhide HOK) w4 (o4.arg (unhide HLEN) o4.cap (unhide HSM))); have dd4 := below_after dda d4; clear HC o4 d4)
        | (go_simp; go_at_call 24; refine (unhide H5).mono ?_; rintro e w5 ⟨A5, c5, rfl, o5, d5⟩; rw [patR_yes (unhide HOK)] at o5 ⊢; have o6 := o5.low dd4.size; have d6 := below_after dd4 d5; clear H5 o5 d5))
    go_wp2
    go_ret2
    exact GivesIB.mk true o6 d6
  · have HCUT := hide (show zs.take k ++ zs.drop (k + 1) = cutAt zs k from rfl)
    have hA2 : Arg w B (some ⟨ad.block, ad.off + (k + 1), none⟩) (n - (k + 1)) (c - (k + 1)) (zs.drop (k + 1)) := by
      have hA2 := h.cut (f := k + 1) (m := n - (k + 1)) (by omega)
      rw [List.take_of_length_le (by rw [List.length_drop]; omega)] at hA2
      rwa [show ad.add (k + 1) = ⟨ad.block, ad.off + (k + 1), none⟩ by unfold Addr.add; rw [if_neg (by omega)]] at hA2
    have HCC := hide (show ∀ w2, Below w.heap.size w w2 → Calls Try.prog 22 #[.slice (some ⟨w2.heap.size, 0, none⟩) 2 2] (w2.alloc (.cells #[.slice (some ad) k c, .slice (some ⟨ad.block, ad.off + (k + 1), none⟩) (n - (k + 1)) (c - (k + 1))] 22)) (GivesI (w2.alloc (.cells #[.slice (some ad) k c, .slice (some ⟨ad.block, ad.off + (k + 1), none⟩) (n - (k + 1)) (c - (k + 1))] 22)) (zs.take k ++ zs.drop (k + 1))) from fun w2 d => by
      have d2 := (Below.refl w2.heap.size w2).alloc (Nat.le_refl _) (.cells #[.slice (some ad) k c, .slice (some ⟨ad.block, ad.off + (k + 1), none⟩) (n - (k + 1)) (c - (k + 1))] 22)
      have hW := Whole.new w2 22 #[.slice (some ad) k c, .slice (some ⟨ad.block, ad.off + (k + 1), none⟩) (n - (k + 1)) (c - (k + 1))]
      exact concat2_any w2.heap.size (some ad) (some ⟨ad.block, ad.off + (k + 1), none⟩) k c B (n - (k + 1)) (c - (k + 1)) B _ _ _ (hW.cell 0) (hW.cell 1) ((hA1.below d).below d2) ((hA2.below d).below d2) (by omega) (by omega))
    clear h hl hcap hp
    clear hA1 hA2
    go_enter Try.func18, Try.ntmps18
    go_wp2_with fail
    refine (unhide H1).mono ?_
    rintro e w1 ⟨rfl, d1⟩
    clear H1
    go_wp2_with fail
    refine (unhide H2 w1).mono ?_
    rintro e w1' ⟨rfl, rfl⟩
    clear H2
    have dd := below_after d1 (below_drew _ w1')
    have HC := hide (unhide HCC w1'.drew dd)
    have dal := (Below.refl w1'.drew.heap.size w1'.drew).alloc (Nat.le_refl _) (.cells #[.slice (some ad) k c, .slice (some ⟨ad.block, ad.off + (k + 1), none⟩) (n - (k + 1)) (c - (k + 1))] 22)
    have dda := below_after dd dal
    clear HCC d1
    go_wp2
    go_region_held3 (fun _ => True) (trivial)
      (first
        | (go_simp; go_at_call 22; refine (unhide HC).mono ?_; rintro e w4 ⟨A4, c4, rfl, o4, d4⟩; have e4 := unhide HCUT; rw [e4] at o4 ⊢; have H5 := hide (ipat_any A4 _ c4 _ (cutAt zs k) true (unhide HOK) w4 (o4.arg (unhide HLEN) o4.cap (unhide HSM))); have dd4 := below_after dda d4; clear HC o4 d4)
        | (go_simp; go_at_call 24; refine (unhide H5).mono ?_; rintro e w5 ⟨A5, c5, rfl, o5, d5⟩; rw [patR_yes (unhide HOK)] at o5 ⊢; have o6 := o5.low dd4.size; have d6 := below_after dd4 d5; clear H5 o5 d5))
    go_wp2
    go_ret2
    exact GivesIB.mk true o6 d6
set_option maxHeartbeats 800000 in
theorem iwpl_any (A : Option Addr) (n c B : Nat) (zs : List Int) (x : Int) (w : World) (h : Arg w B A n c zs) (hx : -9223372036854775808 ≤ x ∧ x ≤ 9223372036854775807) :
    Calls Try.prog 18 #[.slice A n c, .int .i64 x] w (GivesIB w (wplR zs x) (wplOK zs x)) := by
  have hl := h.len
  obtain ⟨b, hp⟩ : ∃ b, isP zs = b := ⟨_, rfl⟩
  cases b with
  | false =>
    have H1 := hide (iisperm_any A n c B zs false hp w h.reads h.under h.le h.small)
    have ho : wplOK zs x = false := by unfold wplOK; rw [hp]; rfl
    rw [wplR_no ho, ho]
    clear h hp hl ho
    go_enter Try.func18, Try.ntmps18
    go_wp2_with fail
    refine (unhide H1).mono ?_
    rintro e w1 ⟨rfl, d1⟩
    clear H1
    go_wp2
    go_ret2
    exact GivesIB.mk (v := .slice none 0 0) false (Ints.nil _ _) d1
  | true =>
    obtain ⟨b2, hb2⟩ : ∃ b2, decide ((1 : Int) ≤ x ∧ x ≤ (n : Int)) = b2 := ⟨_, rfl⟩
    have ho : wplOK zs x = b2 := by unfold wplOK; rw [hp, hl, hb2]; rfl
    cases b2 with
    | false =>
      have H1 := hide (iisperm_any A n c B zs true hp w h.reads h.under h.le h.small)
      have H2 := hide (fun w' => iplace_any A n c x false hb2 w')
      rw [wplR_no ho, ho]
      clear h hp hl ho hb2
      go_enter Try.func18, Try.ntmps18
      go_wp2_with fail
      refine (unhide H1).mono ?_
      rintro e w1 ⟨rfl, d1⟩
      clear H1
      go_wp2_with fail
      refine (unhide H2 w1).mono ?_
      rintro e w2 ⟨rfl, rfl⟩
      clear H2
      go_wp2
      go_ret2
      exact GivesIB.mk (v := .slice none 0 0) false (Ints.nil _ _) d1
    | true =>
      have hr := of_decide_eq_true hb2
      obtain ⟨X, rfl, hX⟩ := place_nat' hr
      rw [wplR_yes ho, ho, show ((X + 1 : Nat) : Int).toNat - 1 = X by omega]
      have := wpl_yes A n c B zs X w h hp hX
      rwa [show ((X : Nat) : Int) + 1 = ((X + 1 : Nat) : Int) by omega] at this
end Go.Proofs.Ythndeaodpjelgaa


/-
  impl.childAt, ChildAt, ParentOf; slices.Concat of three lists, slices.Index.
-/

namespace Go.Proofs.Ythndeaodpjelgaa
set_option maxRecDepth 100000
open Go.RowKit

set_option maxHeartbeats 3200000 in
theorem concat3_any (gs : Nat) (A1 A2 A3 : Option Addr) (n1 c1 B1 n2 c2 B2 n3 c3 B3 : Nat) (xs ys zs : List Int) (w : World) (hc0 : w.cell? ⟨gs, 0, none⟩ = some (.slice A1 n1 c1)) (hc1 : w.cell? ⟨gs, 1, none⟩ = some (.slice A2 n2 c2)) (hc2 : w.cell? ⟨gs, 2, none⟩ = some (.slice A3 n3 c3))
    (h1 : Arg w B1 A1 n1 c1 xs) (h2 : Arg w B2 A2 n2 c2 ys) (h3 : Arg w B3 A3 n3 c3 zs) (hn1 : n1 ≤ 300) (hn2 : n2 ≤ 300) (hn3 : n3 ≤ 300) :
    Calls Try.prog 22 #[.slice (some ⟨gs, 0, none⟩) 3 3] w (GivesI w (xs ++ ys ++ zs)) := by
  have hw1 : IntKind.i64.wrap ((0 : Int) + (n1 : Int)) = (n1 : Int) := by rw [IntKind.wrap_i64]; omega
  have hw1' : IntKind.i64.wrap (n1 : Int) = (n1 : Int) := by rw [IntKind.wrap_i64]; omega
  have hw2 : IntKind.i64.wrap ((n1 : Int) + (n2 : Int)) = (n1 : Int) + (n2 : Int) := by rw [IntKind.wrap_i64]; omega
  have hw3 : IntKind.i64.wrap ((n1 : Int) + (n2 : Int) + (n3 : Int)) = (n1 : Int) + (n2 : Int) + (n3 : Int) := by rw [IntKind.wrap_i64]; omega
  have hp1 : ¬ ((n1 : Int) < 0) := by omega
  have hp2 : ¬ ((n1 : Int) + (n2 : Int) < 0) := by omega
  have hp3 : ¬ ((n1 : Int) + (n2 : Int) + (n3 : Int) < 0) := by omega
  have HG := hide (show ∀ w', Calls Try.prog 25 #[.slice none 0 0, .int .i64 ((n1 : Int) + (n2 : Int) + (n3 : Int))] w' _ from fun w' => by
    have := grow_any (n1 + n2 + n3) (by omega) w'
    rw [Int.natCast_add, Int.natCast_add] at this
    exact this)
  have hl1 := World.block_lt_of_cell? w _ hc0
  have HA := hide (⟨h1, h2, h3⟩ : Arg w B1 A1 n1 c1 xs ∧ Arg w B2 A2 n2 c2 ys ∧ Arg w B3 A3 n3 c3 zs)
  clear h1 h2 h3
  go_enter Try.func22, Try.ntmps22
  go_wp2
  go_loopw [3, 5, 11] (fun s _ i wr => wr = w ∧ ((i = .int .i64 0 ∧ s = .int .i64 0) ∨ (i = .int .i64 1 ∧ s = .int .i64 n1) ∨ (i = .int .i64 2 ∧ s = .int .i64 ((n1 : Int) + (n2 : Int))) ∨ (i = .int .i64 3 ∧ s = .int .i64 ((n1 : Int) + (n2 : Int) + (n3 : Int))))) (fun _ _ i _ => 3 - (intOf i).toNat)
  case atStart => exact ⟨rfl, .inl ⟨rfl, rfl⟩⟩
  case round =>
    obtain ⟨hwr, hcase⟩ := hrel
    replace hwr := hwr.symm
    subst hwr
    rcases hcase with ⟨rfl, rfl⟩ | ⟨rfl, rfl⟩ | ⟨rfl, rfl⟩ | ⟨rfl, rfl⟩
    · go_wp2
      go_roundw
      case rel => exact ⟨trivial, .inr (.inl ⟨rfl, rfl⟩)⟩
      case measure => simp [intOf]
    · go_wp2
      go_roundw
      case rel => exact ⟨trivial, .inr (.inr (.inl ⟨rfl, rfl⟩))⟩
      case measure => simp [intOf]
    · go_wp2
      go_roundw
      case rel => exact ⟨trivial, .inr (.inr (.inr ⟨rfl, rfl⟩))⟩
      case measure => simp [intOf]
    · go_wp2_with fail
      refine (unhide HG _).mono ?_
      rintro e w1 ⟨Av, cv, rfl, hown, hb1⟩
      clear HG
      go_wp2
      go_loopw [6, 8, 27] (fun s _ i wr => Below w.heap.size w wr ∧ ((i = .int .i64 0 ∧ wr.ownsRow w.heap.size 3 1 s 0 []) ∨ (i = .int .i64 1 ∧ wr.ownsRow w.heap.size 3 1 s n1 (i64s xs)) ∨ (i = .int .i64 2 ∧ wr.ownsRow w.heap.size 3 1 s (n1 + n2) (i64s (xs ++ ys))) ∨ (i = .int .i64 3 ∧ wr.ownsRow w.heap.size 3 1 s (n1 + n2 + n3) (i64s (xs ++ ys ++ zs))))) (fun _ _ i _ => 3 - (intOf i).toNat)
      case atStart => exact ⟨hb1, .inl ⟨rfl, hown⟩⟩
      case round =>
        obtain ⟨hb, hcase⟩ := hrel
        have hd0 := (hb.cell (p := ⟨gs, 0, none⟩) hl1).trans hc0
        have hd1 := (hb.cell (p := ⟨gs, 1, none⟩) hl1).trans hc1
        have hd2 := (hb.cell (p := ⟨gs, 2, none⟩) hl1).trans hc2
        have hA1 := (unhide HA).1.below hb
        have hA2 := (unhide HA).2.1.below hb
        have hA3 := (unhide HA).2.2.below hb
        have hsz := hb.size
        clear hown hb1 hc0 hc1 hc2
        rcases hcase with ⟨rfl, hown⟩ | ⟨rfl, hown⟩ | ⟨rfl, hown⟩ | ⟨rfl, hown⟩
        · go_wp2_with (first
            | (at_builtin; refine wpList_append_arg rfl (.tmp 31) (.tmp 32) rfl w.heap.size B1 0 n1 c1 w _ A1 [] xs rfl rfl hown hA1 (by omega) hb hsz ?_; intro v' w' hown2 hb2 hg2))
          go_roundw
          case rel => exact ⟨hb2, .inr (.inl ⟨rfl, by rw [Nat.zero_add, List.nil_append] at hown2; exact hown2⟩)⟩
          case measure => simp [intOf]
        · go_wp2_with (first
            | (at_builtin; refine wpList_append_arg rfl (.tmp 31) (.tmp 32) rfl w.heap.size B2 n1 n2 c2 w _ A2 xs ys rfl rfl hown hA2 (by omega) hb hsz ?_; intro v' w' hown2 hb2 hg2))
          go_roundw
          case rel => exact ⟨hb2, .inr (.inr (.inl ⟨rfl, hown2⟩))⟩
          case measure => simp [intOf]
        · go_wp2_with (first
            | (at_builtin; refine wpList_append_arg rfl (.tmp 31) (.tmp 32) rfl w.heap.size B3 (n1 + n2) n3 c3 w _ A3 (xs ++ ys) zs rfl rfl hown hA3 (by omega) hb hsz ?_; intro v' w' hown2 hb2 hg2))
          go_roundw
          case rel => exact ⟨hb2, .inr (.inr (.inr ⟨rfl, hown2⟩))⟩
          case measure => simp [intOf]
        · have hI := Ints.of_own hown
          clear hown hA1 hA2 hA3
          go_wp2
          go_ret
          exact GivesI.mk hI hb
set_option maxHeartbeats 800000 in
theorem indexi_any (A : Option Addr) (n c B : Nat) (zs : List Int) (v : Int) (w : World) (h : Arg w B A n c zs) :
    Calls Try.prog 19 #[.slice A n c, .int .i64 v] w fun e w' => (∃ z : Int, e = .returned (.int .i64 z) ∧ ((∃ k : Nat, z = (k : Int) ∧ k < n ∧ zs[k]? = some v) ∨ (z = -1 ∧ v ∉ zs))) ∧ w = w' := by
  have hl := h.len
  have hn := h.le
  have hr := h.reads
  have HL := hide hl
  clear h hl
  go_enter Try.func19, Try.ntmps19
  go_wp2
  go_loop [8] (fun i => ∃ k : Nat, k ≤ n ∧ i = .int .i64 k ∧ Hid (v ∉ zs.take k)) (fun i => n - (intOf i).toNat)
  case atStart => exact ⟨0, Nat.zero_le _, rfl, hide (by simp)⟩
  case round =>
    obtain ⟨k, hk, rfl, hno⟩ := hrel
    by_cases hlt : k < n
    · obtain ⟨ad, u, rfl, _, hu, hc⟩ := hr.at_ hlt
      obtain ⟨x, hx, rfl⟩ := i64_at hu
      have HX := hide hx
      clear hu hx hr
      by_cases he : v = x
      · subst he
        go_wp2
        go_ret
        exact ⟨⟨_, rfl, .inl ⟨k, rfl, hlt, unhide HX⟩⟩, rfl⟩
      · have hnext := hide (show v ∉ zs.take (k + 1) from fun hm => by
          rw [List.take_add_one, unhide HX] at hm
          rcases List.mem_append.1 hm with hm | hm
          · exact unhide hno hm
          · simp at hm
            exact he hm)
        clear hno HX
        go_wp2
        go_round
        case rel => exact ⟨k + 1, by omega, by go_num, hnext⟩
        case measure => simp [intOf]; omega
    · obtain rfl : n = k := by omega
      have hnin : Hid (v ∉ zs) := hide (by
        have h1 := unhide hno
        rwa [← unhide HL, List.take_length] at h1)
      clear hno HL hr
      go_wp2
      go_ret
      exact ⟨⟨_, rfl, .inr ⟨rfl, unhide hnin⟩⟩, rfl⟩
set_option maxHeartbeats 1600000 in
theorem ichat_nil (B : Nat) (w : World) (hB : B ≤ w.heap.size) :
    Calls Try.prog 17 #[.slice none 0 0, .int .i64 0] w (GivesI w (chiL [] 0)) := by
  have hA1 : Arg w B none 0 0 ([] : List Int) := ⟨⟨rfl, fun h => by omega⟩, hB, by omega, Nat.le_refl _, fun z hz => by simp at hz, fun _ => rfl⟩
  have hA3 := hA1
  have HE := hide (show ([] : List Int) ++ [(1 : Int)] ++ [] = chiL [] 0 from rfl)
  have hsm : Small [(1 : Int)] := fun z hz => by simp at hz; omega
  have HCC := hide (show ∀ w2, Below w.heap.size w w2 → Calls Try.prog 22 #[.slice (some ⟨w2.heap.size + 1, 0, none⟩) 3 3] ((w2.alloc (.cells #[.int .i64 (1 : Int)] 3)).alloc (.cells #[.slice none 0 0, .slice (some ⟨w2.heap.size, 0, none⟩) 1 1, .slice none 0 0] 22)) (GivesI ((w2.alloc (.cells #[.int .i64 (1 : Int)] 3)).alloc (.cells #[.slice none 0 0, .slice (some ⟨w2.heap.size, 0, none⟩) 1 1, .slice none 0 0] 22)) ([] ++ [(1 : Int)] ++ [])) from fun w2 d => by
    have hw1 : w2.heap.size + 1 = (w2.alloc (.cells #[.int .i64 (1 : Int)] 3)).heap.size := (World.size_alloc _ _).symm
    have d1 := (Below.refl w2.heap.size w2).alloc (Nat.le_refl _) (.cells #[.int .i64 (1 : Int)] 3)
    have hm : Ints (w2.alloc (.cells #[.int .i64 (1 : Int)] 3)) w2.heap.size (.slice (some ⟨w2.heap.size, 0, none⟩) 1 1) [(1 : Int)] := Ints.of_own ⟨rfl, .inr ⟨w2.heap.size, 1, #[.int .i64 (1 : Int)], rfl, Nat.le_refl _, heap_alloc_new w2 _, Nat.le_refl _, by unfold maxLen; omega, rfl, rfl⟩⟩
    have hA2 := hm.arg (by omega) (Nat.le_refl _) hsm
    have hB1 := (hA1.below d).below d1
    have hB3 := (hA3.below d).below d1
    obtain ⟨w1, hw⟩ : ∃ w1, w1 = w2.alloc (.cells #[.int .i64 (1 : Int)] 3) := ⟨_, rfl⟩
    rw [← hw] at hA2 hB1 hB3 hw1 ⊢
    rw [hw1]
    have d2 := (Below.refl w1.heap.size w1).alloc (Nat.le_refl _) (.cells #[.slice none 0 0, .slice (some ⟨w2.heap.size, 0, none⟩) 1 1, .slice none 0 0] 22)
    have hW := Whole.new w1 22 #[.slice none 0 0, .slice (some ⟨w2.heap.size, 0, none⟩) 1 1, .slice none 0 0]
    exact concat3_any w1.heap.size none (some ⟨w2.heap.size, 0, none⟩) none _ _ _ _ _ _ _ _ _ _ _ _ _ (hW.cell 0) (hW.cell 1) (hW.cell 2) (hB1.below d2) (hA2.below d2) (hB3.below d2) (by omega) (by omega) (by omega))
  have ddr := (below_drew w.heap.size w)
  have HC := hide (unhide HCC w.drew ddr)
  rw [unhide HE] at HC
  have dd := (ddr.alloc ddr.size (.cells #[.int .i64 (1 : Int)] 3)).alloc (Nat.le_trans ddr.size (by rw [World.size_alloc]; omega)) (.cells #[.slice none 0 0, .slice (some ⟨w.drew.heap.size, 0, none⟩) 1 1, .slice none 0 0] 22)
  clear hA1 hA3 hsm HE HCC ddr
  go_enter Try.func17, Try.ntmps17
  go_wp2
  go_region_held3 (fun _ => True) (trivial)
    (first
      | (go_simp; go_at_call 22; refine (unhide HC).mono ?_; rintro e w4 ⟨A4, c4, rfl, o4, d4⟩; have o5 := o4.low dd.size; have d5 := below_after dd d4; clear HC o4 d4 dd))
  go_wp2
  go_ret
  exact GivesI.mk o5 d5
set_option maxHeartbeats 1600000 in
theorem ichat_zero (ad : Addr) (n c B : Nat) (zs : List Int) (w : World) (h : Arg w B (some ad) n c zs) (hn : n ≤ 8) (hck : 0 < c) :
    Calls Try.prog 17 #[.slice (some ad) n c, .int .i64 0] w (GivesI w (chiL zs 0)) := by
  have hl := h.len
  have hcap := h.cap
  have hA1 : Arg w B (some ad) 0 c ([] : List Int) := ⟨⟨rfl, fun h => by omega⟩, h.under, by omega, by omega, fun z hz => by simp at hz, fun h => by cases h⟩
  have hA3 := h
  have HE := hide (show ([] : List Int) ++ [(n : Int) + 1] ++ zs = chiL zs 0 from by unfold chiL; rw [hl]; rfl)
  have hsm : Small [(n : Int) + 1] := fun z hz => by simp at hz; omega
  have hw1 : IntKind.i64.wrap ((n : Int) + 1) = (n : Int) + 1 := by rw [IntKind.wrap_i64]; omega
  have hbd2 : (n : Int) ≤ (c : Int) := by omega
  have hbd4 : ¬ c = 0 := by omega
  have hbd5 : (0 : Int) ≤ (c : Int) := by omega
  have HCC := hide (show ∀ w2, Below w.heap.size w w2 → Calls Try.prog 22 #[.slice (some ⟨w2.heap.size + 1, 0, none⟩) 3 3] ((w2.alloc (.cells #[.int .i64 ((n : Int) + 1)] 3)).alloc (.cells #[.slice (some ad) 0 c, .slice (some ⟨w2.heap.size, 0, none⟩) 1 1, .slice (some ad) n c] 22)) (GivesI ((w2.alloc (.cells #[.int .i64 ((n : Int) + 1)] 3)).alloc (.cells #[.slice (some ad) 0 c, .slice (some ⟨w2.heap.size, 0, none⟩) 1 1, .slice (some ad) n c] 22)) ([] ++ [((n : Int) + 1)] ++ zs)) from fun w2 d => by
    have hw1 : w2.heap.size + 1 = (w2.alloc (.cells #[.int .i64 ((n : Int) + 1)] 3)).heap.size := (World.size_alloc _ _).symm
    have d1 := (Below.refl w2.heap.size w2).alloc (Nat.le_refl _) (.cells #[.int .i64 ((n : Int) + 1)] 3)
    have hm : Ints (w2.alloc (.cells #[.int .i64 ((n : Int) + 1)] 3)) w2.heap.size (.slice (some ⟨w2.heap.size, 0, none⟩) 1 1) [((n : Int) + 1)] := Ints.of_own ⟨rfl, .inr ⟨w2.heap.size, 1, #[.int .i64 ((n : Int) + 1)], rfl, Nat.le_refl _, heap_alloc_new w2 _, Nat.le_refl _, by unfold maxLen; omega, rfl, rfl⟩⟩
    have hA2 := hm.arg (by omega) (Nat.le_refl _) hsm
    have hB1 := (hA1.below d).below d1
    have hB3 := (hA3.below d).below d1
    obtain ⟨w1, hw⟩ : ∃ w1, w1 = w2.alloc (.cells #[.int .i64 ((n : Int) + 1)] 3) := ⟨_, rfl⟩
    rw [← hw] at hA2 hB1 hB3 hw1 ⊢
    rw [hw1]
    have d2 := (Below.refl w1.heap.size w1).alloc (Nat.le_refl _) (.cells #[.slice (some ad) 0 c, .slice (some ⟨w2.heap.size, 0, none⟩) 1 1, .slice (some ad) n c] 22)
    have hW := Whole.new w1 22 #[.slice (some ad) 0 c, .slice (some ⟨w2.heap.size, 0, none⟩) 1 1, .slice (some ad) n c]
    exact concat3_any w1.heap.size (some ad) (some ⟨w2.heap.size, 0, none⟩) (some ad) _ _ _ _ _ _ _ _ _ _ _ _ _ (hW.cell 0) (hW.cell 1) (hW.cell 2) (hB1.below d2) (hA2.below d2) (hB3.below d2) (by omega) (by omega) (by omega))
  have ddr := (below_drew w.heap.size w)
  have HC := hide (unhide HCC w.drew ddr)
  rw [unhide HE] at HC
  have dd := (ddr.alloc ddr.size (.cells #[.int .i64 ((n : Int) + 1)] 3)).alloc (Nat.le_trans ddr.size (by rw [World.size_alloc]; omega)) (.cells #[.slice (some ad) 0 c, .slice (some ⟨w.drew.heap.size, 0, none⟩) 1 1, .slice (some ad) n c] 22)
  clear h hA1 hA3 hsm hcap HE HCC ddr
  go_enter Try.func17, Try.ntmps17
  go_wp2
  go_region_held3 (fun _ => True) (trivial)
    (first
      | (go_simp; go_at_call 22; refine (unhide HC).mono ?_; rintro e w4 ⟨A4, c4, rfl, o4, d4⟩; have o5 := o4.low dd.size; have d5 := below_after dd d4; clear HC o4 d4 dd))
  go_wp2
  go_ret
  exact GivesI.mk o5 d5
set_option maxHeartbeats 1600000 in
theorem ichat_full (ad : Addr) (k B : Nat) (zs : List Int) (w : World) (h : Arg w B (some ad) k k zs) (hn : k ≤ 8) :
    Calls Try.prog 17 #[.slice (some ad) k k, .int .i64 (k : Int)] w (GivesI w (chiL zs k)) := by
  have hl := h.len
  have hA1 := h.front (k := k) (Nat.le_refl _)
  have hA3 : Arg w B (some ad) 0 0 ([] : List Int) := ⟨⟨rfl, fun h => by omega⟩, h.under, by omega, Nat.le_refl _, fun z hz => by simp at hz, fun h => by cases h⟩
  have HE := hide (show zs.take k ++ [(k : Int) + 1] ++ [] = chiL zs k from by unfold chiL; rw [List.drop_of_length_le (by omega), hl, List.append_nil])
  have hsm : Small [(k : Int) + 1] := fun z hz => by simp at hz; omega
  have hw1 : IntKind.i64.wrap ((k : Int) + 1) = (k : Int) + 1 := by rw [IntKind.wrap_i64]; omega
  have HCC := hide (show ∀ w2, Below w.heap.size w w2 → Calls Try.prog 22 #[.slice (some ⟨w2.heap.size + 1, 0, none⟩) 3 3] ((w2.alloc (.cells #[.int .i64 ((k : Int) + 1)] 3)).alloc (.cells #[.slice (some ad) k k, .slice (some ⟨w2.heap.size, 0, none⟩) 1 1, .slice (some ad) 0 0] 22)) (GivesI ((w2.alloc (.cells #[.int .i64 ((k : Int) + 1)] 3)).alloc (.cells #[.slice (some ad) k k, .slice (some ⟨w2.heap.size, 0, none⟩) 1 1, .slice (some ad) 0 0] 22)) ((zs.take k) ++ [((k : Int) + 1)] ++ [])) from fun w2 d => by
    have hw1 : w2.heap.size + 1 = (w2.alloc (.cells #[.int .i64 ((k : Int) + 1)] 3)).heap.size := (World.size_alloc _ _).symm
    have d1 := (Below.refl w2.heap.size w2).alloc (Nat.le_refl _) (.cells #[.int .i64 ((k : Int) + 1)] 3)
    have hm : Ints (w2.alloc (.cells #[.int .i64 ((k : Int) + 1)] 3)) w2.heap.size (.slice (some ⟨w2.heap.size, 0, none⟩) 1 1) [((k : Int) + 1)] := Ints.of_own ⟨rfl, .inr ⟨w2.heap.size, 1, #[.int .i64 ((k : Int) + 1)], rfl, Nat.le_refl _, heap_alloc_new w2 _, Nat.le_refl _, by unfold maxLen; omega, rfl, rfl⟩⟩
    have hA2 := hm.arg (by omega) (Nat.le_refl _) hsm
    have hB1 := (hA1.below d).below d1
    have hB3 := (hA3.below d).below d1
    obtain ⟨w1, hw⟩ : ∃ w1, w1 = w2.alloc (.cells #[.int .i64 ((k : Int) + 1)] 3) := ⟨_, rfl⟩
    rw [← hw] at hA2 hB1 hB3 hw1 ⊢
    rw [hw1]
    have d2 := (Below.refl w1.heap.size w1).alloc (Nat.le_refl _) (.cells #[.slice (some ad) k k, .slice (some ⟨w2.heap.size, 0, none⟩) 1 1, .slice (some ad) 0 0] 22)
    have hW := Whole.new w1 22 #[.slice (some ad) k k, .slice (some ⟨w2.heap.size, 0, none⟩) 1 1, .slice (some ad) 0 0]
    exact concat3_any w1.heap.size (some ad) (some ⟨w2.heap.size, 0, none⟩) (some ad) _ _ _ _ _ _ _ _ _ _ _ _ _ (hW.cell 0) (hW.cell 1) (hW.cell 2) (hB1.below d2) (hA2.below d2) (hB3.below d2) (by omega) (by omega) (by omega))
  have ddr := (below_drew w.heap.size w)
  have HC := hide (unhide HCC w.drew ddr)
  rw [unhide HE] at HC
  have dd := (ddr.alloc ddr.size (.cells #[.int .i64 ((k : Int) + 1)] 3)).alloc (Nat.le_trans ddr.size (by rw [World.size_alloc]; omega)) (.cells #[.slice (some ad) k k, .slice (some ⟨w.drew.heap.size, 0, none⟩) 1 1, .slice (some ad) 0 0] 22)
  clear h hA1 hA3 hsm HE HCC ddr
  go_enter Try.func17, Try.ntmps17
  go_wp2
  go_region_held3 (fun _ => True) (trivial)
    (first
      | (go_simp; go_at_call 22; refine (unhide HC).mono ?_; rintro e w4 ⟨A4, c4, rfl, o4, d4⟩; have o5 := o4.low dd.size; have d5 := below_after dd d4; clear HC o4 d4 dd))
  go_wp2
  go_ret
  exact GivesI.mk o5 d5
set_option maxHeartbeats 1600000 in
theorem ichat_more (ad : Addr) (n c k B : Nat) (zs : List Int) (w : World) (h : Arg w B (some ad) n c zs) (hn : n ≤ 8) (hk : k ≤ n) (hck : k < c) :
    Calls Try.prog 17 #[.slice (some ad) n c, .int .i64 (k : Int)] w (GivesI w (chiL zs k)) := by
  have hl := h.len
  have hcap := h.cap
  by_cases hk0 : k = 0
  · subst hk0
    exact ichat_zero ad n c B zs w h hn hck
  have AK : ad.add k = ⟨ad.block, ad.off + k, none⟩ := by unfold Addr.add; rw [if_neg (by omega)]
  have hA1 := h.front hk
  have hA3 := h.back hk
  rw [show ad.add k = ⟨ad.block, ad.off + k, none⟩ from AK] at hA3
  have HE := hide (show zs.take k ++ [(n : Int) + 1] ++ zs.drop k = chiL zs k from by unfold chiL; rw [hl, List.append_assoc]; rfl)
  have hsm : Small [(n : Int) + 1] := fun z hz => by simp at hz; omega
  have hw1 : IntKind.i64.wrap ((n : Int) + 1) = (n : Int) + 1 := by rw [IntKind.wrap_i64]; omega
  have hbd1 : (k : Int) ≤ (c : Int) := by omega
  have hbd2 : (n : Int) ≤ (c : Int) := by omega
  have hbd3 : (k : Int) ≤ (n : Int) := by omega
  have hbd4 : ¬ c = k := by omega
  have hbd5 : (0 : Int) ≤ (k : Int) := by omega
  have HCC := hide (show ∀ w2, Below w.heap.size w w2 → Calls Try.prog 22 #[.slice (some ⟨w2.heap.size + 1, 0, none⟩) 3 3] ((w2.alloc (.cells #[.int .i64 ((n : Int) + 1)] 3)).alloc (.cells #[.slice (some ad) k c, .slice (some ⟨w2.heap.size, 0, none⟩) 1 1, .slice (some ⟨ad.block, ad.off + k, none⟩) (n - k) (c - k)] 22)) (GivesI ((w2.alloc (.cells #[.int .i64 ((n : Int) + 1)] 3)).alloc (.cells #[.slice (some ad) k c, .slice (some ⟨w2.heap.size, 0, none⟩) 1 1, .slice (some ⟨ad.block, ad.off + k, none⟩) (n - k) (c - k)] 22)) ((zs.take k) ++ [((n : Int) + 1)] ++ (zs.drop k))) from fun w2 d => by
    have hw1 : w2.heap.size + 1 = (w2.alloc (.cells #[.int .i64 ((n : Int) + 1)] 3)).heap.size := (World.size_alloc _ _).symm
    have d1 := (Below.refl w2.heap.size w2).alloc (Nat.le_refl _) (.cells #[.int .i64 ((n : Int) + 1)] 3)
    have hm : Ints (w2.alloc (.cells #[.int .i64 ((n : Int) + 1)] 3)) w2.heap.size (.slice (some ⟨w2.heap.size, 0, none⟩) 1 1) [((n : Int) + 1)] := Ints.of_own ⟨rfl, .inr ⟨w2.heap.size, 1, #[.int .i64 ((n : Int) + 1)], rfl, Nat.le_refl _, heap_alloc_new w2 _, Nat.le_refl _, by unfold maxLen; omega, rfl, rfl⟩⟩
    have hA2 := hm.arg (by omega) (Nat.le_refl _) hsm
    have hB1 := (hA1.below d).below d1
    have hB3 := (hA3.below d).below d1
    obtain ⟨w1, hw⟩ : ∃ w1, w1 = w2.alloc (.cells #[.int .i64 ((n : Int) + 1)] 3) := ⟨_, rfl⟩
    rw [← hw] at hA2 hB1 hB3 hw1 ⊢
    rw [hw1]
    have d2 := (Below.refl w1.heap.size w1).alloc (Nat.le_refl _) (.cells #[.slice (some ad) k c, .slice (some ⟨w2.heap.size, 0, none⟩) 1 1, .slice (some ⟨ad.block, ad.off + k, none⟩) (n - k) (c - k)] 22)
    have hW := Whole.new w1 22 #[.slice (some ad) k c, .slice (some ⟨w2.heap.size, 0, none⟩) 1 1, .slice (some ⟨ad.block, ad.off + k, none⟩) (n - k) (c - k)]
    exact concat3_any w1.heap.size (some ad) (some ⟨w2.heap.size, 0, none⟩) (some ⟨ad.block, ad.off + k, none⟩) _ _ _ _ _ _ _ _ _ _ _ _ _ (hW.cell 0) (hW.cell 1) (hW.cell 2) (hB1.below d2) (hA2.below d2) (hB3.below d2) (by omega) (by omega) (by omega))
  have ddr := (below_drew w.heap.size w)
  have HC := hide (unhide HCC w.drew ddr)
  rw [unhide HE] at HC
  have dd := (ddr.alloc ddr.size (.cells #[.int .i64 ((n : Int) + 1)] 3)).alloc (Nat.le_trans ddr.size (by rw [World.size_alloc]; omega)) (.cells #[.slice (some ad) k c, .slice (some ⟨w.drew.heap.size, 0, none⟩) 1 1, .slice (some ⟨ad.block, ad.off + k, none⟩) (n - k) (c - k)] 22)
  clear h hA1 hA3 hsm hcap HE HCC ddr
  go_enter Try.func17, Try.ntmps17
  go_wp2
  go_region_held3 (fun _ => True) (trivial)
    (first
      | (go_simp; go_at_call 22; refine (unhide HC).mono ?_; rintro e w4 ⟨A4, c4, rfl, o4, d4⟩; have o5 := o4.low dd.size; have d5 := below_after dd d4; clear HC o4 d4 dd))
  go_wp2
  go_ret
  exact GivesI.mk o5 d5
theorem ichat_any (A : Option Addr) (n c B : Nat) (zs : List Int) (k : Nat) (w : World) (h : Arg w B A n c zs) (hn : n ≤ 8) (hk : k ≤ n) :
    Calls Try.prog 17 #[.slice A n c, .int .i64 (k : Int)] w (GivesI w (chiL zs k)) := by
  have hl := h.len
  have hcap := h.cap
  cases A with
  | none =>
    have h0 := h.nil rfl
    obtain rfl : c = 0 := h0
    obtain rfl : n = 0 := by omega
    obtain rfl : k = 0 := by omega
    obtain rfl : zs = [] := List.length_eq_zero_iff.1 hl
    exact ichat_nil B w h.under
  | some ad =>
    by_cases hc : k < c
    · exact ichat_more ad n c k B zs w h hn hk hc
    · obtain rfl : c = k := by omega
      obtain rfl : n = c := by omega
      exact ichat_full ad n B zs w h hn
set_option maxHeartbeats 1600000 in
theorem icha_any (A : Option Addr) (n c B : Nat) (zs : List Int) (m : Int) (hm : -9223372036854775808 ≤ m ∧ m ≤ 9223372036854775807) (w : World) (h : Arg w B A n c zs) :
    Calls Try.prog 7 #[.slice A n c, .int .i64 m] w (GivesIB w (chaR zs m) (chaOK zs m)) := by
  obtain ⟨hm1, hm2⟩ := hm
  have hl := h.len
  obtain ⟨b, hb⟩ : ∃ b, isP zs = b := ⟨_, rfl⟩
  have H0 := hide (iisperm_any A n c B zs b hb w h.reads h.under h.le h.small)
  cases b with
  | false =>
    have ho : chaOK zs m = false := by unfold chaOK; rw [hb]; rfl
    rw [chaR_no ho, ho]
    clear h hb ho hl
    go_enter Try.func7, Try.ntmps7
    go_wp2_with fail
    refine (unhide H0).mono ?_
    rintro e w1 ⟨rfl, d1⟩
    clear H0
    go_wp2
    go_ret2
    exact GivesIB.mk (v := .slice none 0 0) false (Ints.nil _ _) d1
  | true =>
    have hn8 : n ≤ 8 := by have := isP_le hb; omega
    by_cases h8 : n = 8
    · have ho : chaOK zs m = false := by unfold chaOK; rw [decide_eq_false (show ¬ zs.length ≠ 8 by omega)]; simp
      rw [chaR_no ho, ho]
      have h8b : ((n : Int) == 8) = true := by rw [h8]; rfl
      clear h hb ho hl h8
      go_enter Try.func7, Try.ntmps7
      go_wp2_with fail
      refine (unhide H0).mono ?_
      rintro e w1 ⟨rfl, d1⟩
      clear H0
      go_wp2
      go_ret2
      exact GivesIB.mk (v := .slice none 0 0) false (Ints.nil _ _) d1
    · have h8b : ((n : Int) == 8) = false := by rw [beq_eq_false_iff_ne]; omega
      by_cases h0 : m < 0
      · have ho : chaOK zs m = false := by unfold chaOK; rw [decide_eq_false (show ¬ (0 ≤ m ∧ m ≤ (zs.length : Int)) by omega)]; simp
        rw [chaR_no ho, ho]
        clear h hb ho hl h8
        go_enter Try.func7, Try.ntmps7
        go_wp2_with fail
        refine (unhide H0).mono ?_
        rintro e w1 ⟨rfl, d1⟩
        clear H0
        go_wp2
        go_ret2
        exact GivesIB.mk (v := .slice none 0 0) false (Ints.nil _ _) d1
      · by_cases hgt : (n : Int) < m
        · have ho : chaOK zs m = false := by unfold chaOK; rw [decide_eq_false (show ¬ (0 ≤ m ∧ m ≤ (zs.length : Int)) by omega)]; simp
          rw [chaR_no ho, ho]
          clear h hb ho hl h8
          go_enter Try.func7, Try.ntmps7
          go_wp2_with fail
          refine (unhide H0).mono ?_
          rintro e w1 ⟨rfl, d1⟩
          clear H0
          go_wp2
          go_ret2
          exact GivesIB.mk (v := .slice none 0 0) false (Ints.nil _ _) d1
        · obtain ⟨k, rfl⟩ : ∃ k : Nat, m = (k : Int) := ⟨m.toNat, by omega⟩
          obtain ⟨e1, e2⟩ := chaR_yes hb (show zs.length < 8 by omega) (show k ≤ zs.length by omega)
          rw [e1, e2]
          have H3 := hide (fun (w' : World) (d : Below w.heap.size w w') => ichat_any A n c B zs k w' (h.below d) (by omega) (by omega))
          have hk : k ≤ n := by omega
          clear h hb hl e1 e2 hm1 hm2 h0 hgt h8
          have h0 : ¬ (k : Int) < 0 := by omega
          have hgt : ¬ (n : Int) < (k : Int) := by omega
          go_enter Try.func7, Try.ntmps7
          go_wp2_with fail
          refine (unhide H0).mono ?_
          rintro e w1 ⟨rfl, d1⟩
          have H4 := hide (unhide H3 w1 d1)
          clear H0 H3
          go_wp2_with fail
          refine (unhide H4).mono ?_
          rintro e w4 ⟨A4, c4, rfl, o4, d4⟩
          have hI := o4.low d1.size
          have hb4 := below_after d1 d4
          clear H4 o4 d4 d1
          go_wp2
          go_ret2
          exact GivesIB.mk true hI hb4
theorem cut_par {p : List Int} {k : Nat} (hp : isP p = true) (hk : p[k]? = some (p.length : Int)) : patL (cutAt p k) = parL p := by
  have hlt : k < p.length := (List.getElem?_eq_some_iff.1 hk).1
  have h0 : p.length ≠ 0 := by omega
  obtain ⟨a, b, h1, h2⟩ := par_split hp h0
  have hnd := (isP_true.1 hp).2.2
  have ha : p[a.length]? = some (p.length : Int) := by
    conv => lhs; rw [h1]
    rw [List.getElem?_append_right (Nat.le_refl _), Nat.sub_self]
    rfl
  have hal : a.length < p.length := (List.getElem?_eq_some_iff.1 ha).1
  obtain rfl : k = a.length := by
    have e1 := (List.getElem?_eq_some_iff.1 hk).2
    have e2 := (List.getElem?_eq_some_iff.1 ha).2
    have hpw := List.pairwise_iff_getElem.1 hnd
    rcases Nat.lt_trichotomy k a.length with hl | hl | hl
    · exact absurd (e1.trans e2.symm) (hpw _ _ hlt hal hl)
    · exact hl
    · exact absurd (e2.trans e1.symm) (hpw _ _ hal hlt hl)
  have hc : cutAt p a.length = parL p := by
    rw [h2]
    unfold cutAt
    conv => lhs; rw [h1]
    rw [List.take_left, List.drop_append, List.drop_of_length_le (by omega), show a.length + 1 - a.length = 1 by omega]
    rfl
  rw [hc]
  exact patL_self (parL_isP hp h0)
set_option maxHeartbeats 800000 in
theorem ipar14_any (A : Option Addr) (n c B : Nat) (zs : List Int) (w : World) (h : Arg w B A n c zs) :
    Calls Try.prog 12 #[.slice A n c] w (GivesIB w (parR zs) (parOK zs)) := by
  have hl := h.len
  have hn := h.le
  have H0 := hide (indexi_any A n c B zs (n : Int) w h)
  have key : ∀ z : Int, ((∃ k : Nat, z = (k : Int) ∧ k < n ∧ zs[k]? = some (n : Int)) ∨ (z = -1 ∧ (n : Int) ∉ zs)) → wplR zs (z + 1) = parR zs ∧ wplOK zs (z + 1) = parOK zs := by
    intro z hz
    cases hp : isP zs with
    | false =>
      have h1 : wplOK zs (z + 1) = false := by unfold wplOK; rw [hp]; rfl
      have h2 : parOK zs = false := by unfold parOK; rw [hp]; rfl
      rw [wplR_no h1, parR_no h2, h1, h2]
      exact ⟨rfl, rfl⟩
    | true =>
      rcases hz with ⟨k, rfl, hk, hzk⟩ | ⟨rfl, hno⟩
      · have h1 : wplOK zs ((k : Int) + 1) = true := by unfold wplOK; rw [hp, decide_eq_true (by omega)]; rfl
        have h2 : parOK zs = true := by unfold parOK; rw [hp, decide_eq_true (by omega)]; rfl
        rw [wplR_yes h1, parR_yes h2, h1, h2, show ((k : Int) + 1).toNat - 1 = k by omega]
        exact ⟨cut_par hp (by rw [hl]; exact hzk), rfl⟩
      · have h0 : n = 0 := by
          refine Classical.byContradiction fun hne => hno ?_
          have := isP_has hp (x := (n : Int)) (by omega) (by omega)
          exact this
        have h1 : wplOK zs (-1 + 1) = false := by unfold wplOK; rw [hp, decide_eq_false (by omega)]; rfl
        have h2 : parOK zs = false := by unfold parOK; rw [hp, decide_eq_false (by omega)]; rfl
        rw [wplR_no h1, parR_no h2, h1, h2]
        exact ⟨rfl, rfl⟩
  have HK := hide key
  have HW := hide (fun (z : Int) (hz : -1 ≤ z ∧ z < 1048576) => iwpl_any A n c B zs (z + 1) w h ⟨by omega, by omega⟩)
  clear h key hl
  go_enter Try.func12, Try.ntmps12
  go_wp2_with fail
  refine (unhide H0).mono ?_
  rintro e w1 ⟨⟨z, rfl, hz⟩, rfl⟩
  have hr : -1 ≤ z ∧ z < 1048576 := by
    rcases hz with ⟨k, rfl, hk, _⟩ | ⟨rfl, _⟩ <;> omega
  obtain ⟨e1, e2⟩ := unhide HK z hz
  have H1 := hide (unhide HW z hr)
  rw [e1, e2] at H1
  have hw1 : IntKind.i64.wrap (z + 1) = z + 1 := by rw [IntKind.wrap_i64]; omega
  clear H0 HK HW e1 e2 hz
  go_wp2_with fail
  refine (unhide H1).mono ?_
  rintro e w2 ⟨A2, c2, rfl, o2, d2⟩
  clear H1
  go_wp2
  go_ret2
  exact GivesIB.mk _ o2 d2
end Go.Proofs.Ythndeaodpjelgaa


/-
  THE LAST STEP OF A LAW: the walk's answer 'true' and 'nothing below the call's own blocks has turned' give the row's post. One lemma for all laws.
-/

namespace Go.Proofs.Ythndeaodpjelgaa
set_option maxRecDepth 100000
open Go.ChangeShapes Go.WideShapes Go.ChangeAt Go.RowKit

theorem trodAll_below {H : Type} {enc : TypeId × Value → H} {P : Program} (hl : laidOutB P = true) {W W' : World} (hb : Below W.heap.size W W') :
    ∀ (ts : List TypeId) (vs : List Value) (ds : List (DataW H)) (ps : List MemPlace), (∀ t ∈ ts, P.readableRec t = true ∧ t < P.types.size) → (∀ x ∈ ps, x.block < W.heap.size) →
      DataW.TrodAll enc P W 0 (fun _ => true) true ts vs ds ps → DataW.TrodAll enc P W' 0 (fun b => decide (b < W.heap.size)) true ts vs ds ps
  | [], vs, ds, ps, _, _, h => by
    obtain ⟨rfl, rfl, rfl⟩ := trodAll_nil h
    exact trodAll_mk0
  | t :: ts, vs, ds, ps, ht, hp, h => by
    obtain ⟨v, vs1, d, ds1, a, b, rfl, rfl, rfl, h1, h2⟩ := trodAll_cons h
    exact ⟨a, b, Below.trod hl (ht t (by simp)).1 (ht t (by simp)).2 h1 hb (fun x hx => hp x (by simp [hx])),
      trodAll_below hl hb ts vs1 ds1 b (fun t' h' => ht t' (by simp [h'])) (fun x hx => hp x (by simp [hx])) h2, rfl⟩

theorem law_end {H : Type} {enc : TypeId × Value → H} {P : Program} {f : Func} {s : ChangeSpec} {W W' : World} {args : Array Value} {ds gs : List (DataW H)} {before : List MemPlace} {tb : TypeId}
    (hl : laidOutB P = true) (hts : ∀ t ∈ f.params.toList, P.readableRec t = true ∧ t < P.types.size) (hb4 : P.underlying tb = some .bool) (hrt : f.resultTypes = #[tb]) (hv : s.vars = [])
    (hW : DataW.Whole enc P f.params.toList s.vars false W args.toList ds gs before)
    (hfn : s.fn H (ds ++ gs) = { results := [.lit (.bool true)], args := ds }) (hbel : Below W.heap.size W W') :
    s.post enc P f false true false false W args (.bool true) W' := by
  have hlt : ∀ x ∈ before, x.block < W.heap.size := fun x hx => by simpa using hW.lt x hx
  have hW' := hW
  obtain ⟨p, q, hA, hV, rfl, _, _⟩ := hW
  rw [hv] at hV
  obtain ⟨rfl, rfl⟩ := trodVars_none hV
  have hargs := trodAll_below hl hbel _ _ _ _ hts (fun x hx => hlt x (by simp [hx])) hA
  refine ⟨ds, [], _, [] ++ [], p, [], hW', ?_, ?_, ?_, hbel.frame _, fun h => by cases h⟩
  · rw [hfn, hrt]; exact trodAll_mk1 (shut_bool hb4 _)
  · rw [hfn]; exact hargs
  · rw [hfn, hv]; rfl

theorem lt_of_row {W : World} {a : Addr} {m j : Nat} (hlt : ∀ x ∈ MemPlace.row a m, x.block < W.heap.size) (hj : j < m) : a.block < W.heap.size :=
  hlt (.cell a.block (a.off + j)) (MemPlace.mem_row.2 ⟨j, hj, rfl⟩)

/-- An argument []string, as 'Reads'. -/
theorem open_strs_reads {H : Type} {enc : TypeId × Value → H} {P : Program} {w : World} {r : Reach} {b0 t e : TypeId} {v : Value} {d : DataW H} {ps : List MemPlace} (ht : P.underlying t = some (.slice e)) (he : P.underlying e = some .string) (hc : P.cellsOf e = 1)
    (hval : Value.okWide P w r b0 t v) (h : DataW.Trod enc P w 0 (fun _ => true) true t v d ps) (hlt : ∀ x ∈ ps, x.block < w.heap.size) :
    ∃ (A : Option Addr) (n c : Nat) (ss : List ByteArray), v = .slice A n c ∧ Reads w w.heap.size A n (ss.map Value.string) ∧ n ≤ maxLen ∧ ∀ s ∈ ss, s.size ≤ maxLen := by
  obtain ⟨a0, len, cap, rfl⟩ := okWide_slice ht hval
  obtain ⟨fuel, hf⟩ := h
  rcases open_strings ht he hc hf with ⟨hcs, hx⟩ | ⟨a, len', cap', ss, hcs, _, hl, hm, hz, hx, hcell, hws⟩
  · simp [Value.cells] at hcs
    obtain ⟨rfl, rfl, rfl⟩ := hcs
    exact ⟨none, 0, 0, [], rfl, Reads.none_, Nat.zero_le _, by simp⟩
  · simp [Value.cells] at hcs
    obtain ⟨rfl, rfl, rfl⟩ := hcs
    simp only [Prod.mk.injEq] at hx
    obtain ⟨rfl, rfl⟩ := hx
    simp only [if_true] at hz
    refine ⟨some a, len, cap, ss.take len, rfl, ⟨by simp; omega, fun hn => ⟨a, rfl, lt_of_row (j := 0) hlt (by omega), fun j u hu => ?_⟩⟩, by omega, fun s hs => hws s (List.mem_of_mem_take hs)⟩
    rw [List.getElem?_map, List.getElem?_take] at hu
    by_cases hj : j < len
    · rw [if_pos hj] at hu
      rw [hcell j (by omega), ← hu, List.getD_eq_getElem?_getD]
      have : ss[j]? = some ss[j] := List.getElem?_eq_getElem (by omega)
      rw [this]; rfl
    · rw [if_neg hj] at hu; cases hu

/-- An argument of integers, as 'Reads'. -/
theorem open_ints_reads {H : Type} {enc : TypeId × Value → H} {P : Program} {w : World} {r : Reach} {b0 t e : TypeId} {ik : IntKind} {v : Value} {d : DataW H} {ps : List MemPlace} (ht : P.underlying t = some (.slice e)) (he : P.underlying e = some (.int ik)) (hc : P.cellsOf e = 1)
    (hval : Value.okWide P w r b0 t v) (h : DataW.Trod enc P w 0 (fun _ => true) true t v d ps) (hlt : ∀ x ∈ ps, x.block < w.heap.size) :
    ∃ (A : Option Addr) (n c : Nat) (zs : List Int), v = .slice A n c ∧ Reads w w.heap.size A n (zs.map (Value.int ik)) ∧ n ≤ maxLen ∧ ∀ z ∈ zs, (Lit.int ik z).wf = true := by
  obtain ⟨a0, len, cap, rfl⟩ := okWide_slice ht hval
  obtain ⟨fuel, hf⟩ := h
  rcases open_ints ht he hc hf with ⟨hcs, hx⟩ | ⟨a, len', cap', zs, hcs, _, hl, hm, hz, hx, hcell, hws⟩
  · simp [Value.cells] at hcs
    obtain ⟨rfl, rfl, rfl⟩ := hcs
    exact ⟨none, 0, 0, [], rfl, Reads.none_, Nat.zero_le _, by simp⟩
  · simp [Value.cells] at hcs
    obtain ⟨rfl, rfl, rfl⟩ := hcs
    simp only [Prod.mk.injEq] at hx
    obtain ⟨rfl, rfl⟩ := hx
    simp only [if_true] at hz
    refine ⟨some a, len, cap, zs.take len, rfl, ⟨by simp; omega, fun hn => ⟨a, rfl, lt_of_row (j := 0) hlt (by omega), fun j u hu => ?_⟩⟩, by omega, fun s hs => hws s (List.mem_of_mem_take hs)⟩
    rw [List.getElem?_map, List.getElem?_take] at hu
    by_cases hj : j < len
    · rw [if_pos hj] at hu
      rw [hcell j (by omega), ← hu, List.getD_eq_getElem?_getD]
      have : zs[j]? = some zs[j] := List.getElem?_eq_getElem (by omega)
      rw [this]; rfl
    · rw [if_neg hj] at hu; cases hu
theorem bytes_of_wf : ∀ (zs : List Int), (∀ z ∈ zs, (Lit.int .u8 z).wf = true) → ∃ bs : List UInt8, zs.map (Value.int .u8) = u8s bs
  | [], _ => ⟨[], rfl⟩
  | z :: r, h => by
    obtain ⟨bs, hb⟩ := bytes_of_wf r (fun y hy => h y (by simp [hy]))
    have hz : 0 ≤ z ∧ z ≤ 255 := by simpa [Lit.wf, IntKind.min, IntKind.max, IntKind.signed, IntKind.bits] using h z (by simp)
    refine ⟨UInt8.ofNat z.toNat :: bs, ?_⟩
    have e : ((UInt8.ofNat z.toNat).toNat : Int) = z := by rw [UInt8.toNat_ofNat']; omega
    simp only [u8s, List.map_cons, e]
    rw [hb]; rfl
theorem open_bytes_reads {H : Type} {enc : TypeId × Value → H} {P : Program} {w : World} {r : Reach} {b0 t e : TypeId} {v : Value} {d : DataW H} {ps : List MemPlace} (ht : P.underlying t = some (.slice e)) (he : P.underlying e = some (.int .u8)) (hc : P.cellsOf e = 1)
    (hval : Value.okWide P w r b0 t v) (h : DataW.Trod enc P w 0 (fun _ => true) true t v d ps) (hlt : ∀ x ∈ ps, x.block < w.heap.size) :
    ∃ (A : Option Addr) (n c : Nat) (bs : List UInt8), v = .slice A n c ∧ Reads w w.heap.size A n (u8s bs) ∧ n ≤ maxLen := by
  obtain ⟨A, n, c, zs, rfl, hr, hn, hw⟩ := open_ints_reads ht he hc hval h hlt
  obtain ⟨bs, hb⟩ := bytes_of_wf zs hw
  exact ⟨A, n, c, bs, rfl, by rw [← hb]; exact hr, hn⟩
theorem cellsByte : Try.prog.cellsOf 5 = 1 := by kernel_rfl

theorem laidOut : laidOutB Try.prog = true := by kernel_rfl
theorem own : ownKnob Try.prog.godebug = none := by kernel_rfl
end Go.Proofs.Ythndeaodpjelgaa
