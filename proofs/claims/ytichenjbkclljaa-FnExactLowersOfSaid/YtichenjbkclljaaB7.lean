/-
  Words and contracts that the laws lean on, bundled: MarkS, NearM, IntsA, NearW, Join, NearS, OpenC, Jots, CntI.
-/
import Derived.Test.YtichenjbkclljaaB2
import Derived.Test.YtichenjbkclljaaB4
import Derived.Test.YtichenjbkclljaaB6
import Derived.LaidMore
import Derived.Test.YtichenjbkclljaaB1
import Derived.Test.YtichenjbkclljaaB3
import Derived.Deep.RegionHeld3
import Derived.BigQuiet
import Derived.Lib.SmallJoins
import Derived.Laws.BitsLemmas
import Derived.Laws.Bits64b
import Derived.Test.YtichenjbkclljaaB5

/-
  markIntSS turns its own rows alone: the frame of a change between two blocks.
-/

namespace Go.Proofs.Ytichenjbkclljaa
set_option maxRecDepth 100000
open Go.RowKit

/-- Nothing outside the blocks from B up to U has turned. -/
structure Turned (B U : Nat) (w w' : World) : Prop where
  os : w'.os = w.os
  tape : w'.tape = w.tape
  output : w'.output = w.output
  size : w.heap.size ≤ w'.heap.size
  block : ∀ i, i < w.heap.size → (i < B ∨ U ≤ i) → w'.heap[i]? = w.heap[i]?
theorem Turned.refl (B U : Nat) (w : World) : Turned B U w w := ⟨rfl, rfl, rfl, Nat.le_refl _, fun _ _ _ => rfl⟩
theorem Turned.grown {B U : Nat} {w0 w w' : World} {row : Option Nat} (h : Turned B U w0 w) (hg : w.grownBy w' row) (hr : ∀ k, row = some k → B ≤ k ∧ k < U) : Turned B U w0 w' :=
  ⟨hg.os.trans h.os, hg.tape.trans h.tape, hg.output.trans h.output, Nat.le_trans h.size hg.size, fun i hi ho =>
    (hg.block i (Nat.lt_of_lt_of_le hi h.size) (fun e => by have := hr i e.symm; omega)).trans (h.block i hi ho)⟩
theorem Turned.below {B U : Nat} {w w' : World} (h : Turned B U w w') (hB : B ≤ w.heap.size) : Below B w w' := ⟨h.os, h.tape, h.output, h.size, fun i hi => h.block i (by omega) (.inl hi)⟩
theorem Row.turned {B U B0 n : Nat} {w w' : World} {v : Value} {xs : List Value} (h : Row w B0 v n xs) (hk : ∀ k, v.ownBlock = some k → k < B ∨ U ≤ k) (ht : Turned B U w w') : Row w' B0 v n xs := by
  refine ⟨h.1, ?_⟩
  rcases h.2 with hn | ⟨g, cap, cur, e, rfl, hb, hgg, rest⟩
  · exact .inl hn
  · exact .inr ⟨g, cap, cur, e, rfl, hb, (ht.block g (Array.getElem?_eq_some_iff.1 hgg).1 (hk g rfl)).trans hgg, rest⟩
theorem own_turned {B U B0 n : Nat} {w w' : World} {e : TypeId} {v : Value} {xs : List Value} (h : w.ownsRow B0 e 1 v n xs) (hk : ∀ k, v.ownBlock = some k → k < B ∨ U ≤ k) (ht : Turned B U w w') : w'.ownsRow B0 e 1 v n xs := by
  refine ⟨h.1, ?_⟩
  rcases h.2 with hn | ⟨g, cap, cur, rfl, hb, hgg, rest⟩
  · exact .inl hn
  · exact .inr ⟨g, cap, cur, rfl, hb, (ht.block g (Array.getElem?_eq_some_iff.1 hgg).1 (hk g rfl)).trans hgg, rest⟩
theorem Ints.turnLow {B U B0 U0 : Nat} {w w' : World} {v : Value} {zs : List Int} (h : Ints w B0 v zs) (hu : Until U0 v) (ht : Turned B U w w') (hU : U0 ≤ B) : Ints w' B0 v zs := Row.turned h (fun k hk => .inl (Nat.lt_of_lt_of_le (hu k hk) hU)) ht
theorem Ints.turnHigh {B U B0 : Nat} {w w' : World} {v : Value} {zs : List Int} (h : Ints w B0 v zs) (ht : Turned B U w w') (hU : U ≤ B0) : Ints w' B0 v zs := Row.turned h (fun k hk => .inr (Nat.le_trans hU (h.since k hk))) ht
theorem Sealed.turnLow {B U B0 U0 : Nat} {w w' : World} {v : Value} {zss : List (List Int)} (h : Sealed w B0 U0 v zss) (ht : Turned B U w w') (hU : U0 ≤ B) : Sealed w' B0 U0 v zss := by
  obtain ⟨vs, h1, h2, h3, h4⟩ := h
  exact ⟨vs, own_turned h1 (fun k hk => .inl (Nat.lt_of_lt_of_le (h3 k hk) hU)) ht, ⟨h2.len, fun i u zs hu hz => (h2.row i u zs hu hz).turnLow (h4 u (List.mem_of_getElem? hu)) ht hU, h2.away⟩, h3, h4⟩
theorem Sealed.turnHigh {B U B0 U0 : Nat} {w w' : World} {v : Value} {zss : List (List Int)} (h : Sealed w B0 U0 v zss) (ht : Turned B U w w') (hU : U ≤ B0) : Sealed w' B0 U0 v zss := by
  obtain ⟨vs, h1, h2, h3, h4⟩ := h
  exact ⟨vs, own_turned h1 (fun k hk => .inr (Nat.le_trans hU (h1.lt k hk).1)) ht, ⟨h2.len, fun i u zs hu hz => (h2.row i u zs hu hz).turnHigh ht hU, h2.away⟩, h3, h4⟩
theorem Turned.trans {B U : Nat} {a b c : World} (h : Turned B U a b) (k : Turned B U b c) : Turned B U a c :=
  ⟨k.os.trans h.os, k.tape.trans h.tape, k.output.trans h.output, Nat.le_trans h.size k.size, fun i hi ho => (k.block i (Nat.lt_of_lt_of_le hi h.size) ho).trans (h.block i hi ho)⟩
theorem Turned.of_below {B U S : Nat} {w w' : World} (h : Below S w w') (hS : w.heap.size ≤ S) : Turned B U w w' := ⟨h.os, h.tape, h.output, h.size, fun i hi _ => h.block i (Nat.lt_of_lt_of_le hi hS)⟩
theorem Turned.of_grown {B U : Nat} {w w' : World} {row : Option Nat} (hg : w.grownBy w' row) (hr : ∀ k, row = some k → B ≤ k ∧ k < U) : Turned B U w w' := (Turned.refl B U w).grown hg hr
theorem Whole.turned {w w' : World} {g : Nat} {t : TypeId} {cs : Array Value} {B U : Nat} (h : Whole w g t cs) (ht : Turned B U w w') (hg : g < B ∨ U ≤ g) : Whole w' g t cs := (ht.block g h.lt hg).trans h
set_option maxHeartbeats 800000 in
/-- markIntSS at a list of rows of the call's own. -/
theorem markss_in (A : Option Addr) (n c B U k : Nat) (K : Int) (hK : K = (k : Int)) (zss : List (List Int)) (w : World) (h : Sealed w B U (.slice A n c) zss) (hkn : k + tot zss ≤ 1099511627776) (hn : n ≤ 1048576) :
    Calls Try.prog 40 #[.slice A n c, .int .i64 K] w fun e w' => e = .returned (.int .i64 (K + (tot zss : Int))) ∧ Sealed w' B U (.slice A n c) (mkS k zss) ∧ Turned B U w w' := by
  subst hK
  have hl := h.opened.len
  obtain ⟨vs, hown, hin, hV1, hV2⟩ := h
  rw [hl] at hown
  have HA := hide hin.away
  have HV := hide hin.len
  have HL := hide hl
  have HV1 := hide hV1
  have HV2 := hide hV2
  have hh := hide (Half.start k hin)
  clear hin hl hV1 hV2
  go_enter Try.func40, Try.ntmps40
  go_wp2
  go_loopw [1, 5] (fun kv i wr => ∃ j : Nat, j ≤ n ∧ kv = .int .i64 ((k + tot (zss.take j) : Nat) : Int) ∧ i = .int .i64 j ∧ Turned B U w wr ∧ wr.ownsRow B 24 1 (.slice A n c) n vs ∧ Hid (Half wr B vs k zss j)) (fun _ i _ => n - (intOf i).toNat)
  case atStart => exact ⟨0, Nat.zero_le _, rfl, rfl, Turned.refl _ _ _, hown, hh⟩
  case round =>
    obtain ⟨j, hj, rfl, rfl, hb, hown', hhf⟩ := hrel
    clear hown hh
    have htt := tot_take zss j
    by_cases hlt : j < n
    · obtain ⟨ad, u, rfl, _, hu, hc⟩ := (Reads.of_own_at hown').at_ hlt
      obtain ⟨zs, hz⟩ : ∃ zs, zss[j]? = some zs := ⟨_, List.getElem?_eq_getElem (by rw [unhide HL]; exact hlt)⟩
      have hts := tot_step hz
      have htt2 := tot_take zss (j + 1)
      have hI := unhide hhf j u zs hu hz
      rw [if_neg (by omega)] at hI
      have hun := unhide HV2 u (List.mem_of_getElem? hu)
      obtain ⟨A1, c1, rfl⟩ := hI.slice
      have H1 := hide (marki_at A1 zs.length c1 B (k + tot (zss.take j)) _ rfl zs wr hI (by omega))
      have hne := rows_apart hown' hI
      have hsi := hI.since
      have HU := hide hu
      have HZ := hide hz
      have HT := hide hts
      obtain ⟨t, ht⟩ : ∃ t, t = tot (zss.take j) := ⟨_, rfl⟩
      rw [← ht] at H1 HT htt ⊢
      have HTT := hide ht
      have hs0 : k + t + zs.length ≤ 1099511627776 := by have h1 := unhide HT; omega
      clear hu hz hts ht hI htt2
      go_wp2_with fail
      refine (unhide H1).mono ?_
      rintro e w2 ⟨rfl, hm, hg⟩
      have hb2 := hb.grown hg (fun q hq => ⟨hsi q hq, hun q hq⟩)
      have hown2 := World.ownsRow.kept hown' hg hne
      have hh2 := hide (Half.step (unhide hhf) (unhide HA) (unhide HU) (unhide HZ) (by rw [← unhide HTT]; exact hm) hg)
      clear H1 hown' hb hm hg hne hhf
      go_wp2
      go_roundw
      case rel => exact ⟨j + 1, by omega, by rw [unhide HT]; go_num, by go_num, hb2, hown2, hh2⟩
      case measure => simp [intOf]; omega
    · obtain rfl : n = j := by omega
      have e : zss.take n = zss := List.take_of_length_le (by rw [unhide HL]; exact Nat.le_refl _)
      rw [e]
      have hdn : Inner wr B vs (mkS k zss) := Half.done (by rw [unhide HL]; exact unhide hhf) (unhide HV) (unhide HA)
      have hI : Sealed wr B U (.slice A n c) (mkS k zss) := ⟨vs, by rw [mkS_length, unhide HL]; exact hown', hdn, unhide HV1, unhide HV2⟩
      clear hown' hhf hdn e
      go_wp2
      go_ret
      exact ⟨ret_int (by omega), hI, hb⟩
theorem small_of_tot {p : List (List Int)} (h : p.length + tot p ≤ 1048576) (hs : ∀ z ∈ p, z.length ≤ maxLen ∧ Small z) : ∀ z ∈ p, z.length ≤ 1048576 ∧ Small z := fun z hz => by
  obtain ⟨i, hi, rfl⟩ := List.getElem_of_mem hz
  have := tot_at (List.getElem?_eq_getElem hi)
  exact ⟨by omega, (hs _ hz).2⟩
end Go.Proofs.Ytichenjbkclljaa


/-
  PLAIN: occurrences some of whose places are side by side. Nothing here speaks of the program.
-/

namespace Go.Proofs.Ytichenjbkclljaa
set_option maxRecDepth 100000

/-- A permutation, and numbers of places that are joined with the next one. -/
def nearOK (q J : List Int) : Bool := isP q && decide (PlOK (q.length - 1) J)
theorem nearOK_iff {q J : List Int} : nearOK q J = true ↔ isP q = true ∧ PlOK (q.length - 1) J := by
  unfold nearOK; rw [Bool.and_eq_true, decide_eq_true_eq]
/-- The joined places are side by side. -/
def fitJ (J pl : List Int) : Bool := J.all fun j => decide (at0 pl j.toNat = at0 pl (j.toNat - 1) + 1)
theorem fitJ_iff {J pl : List Int} : fitJ J pl = true ↔ ∀ j ∈ J, at0 pl j.toNat = at0 pl (j.toNat - 1) + 1 := by
  unfold fitJ
  simp only [List.all_eq_true, decide_eq_true_eq]
theorem fitJ_nil (pl : List Int) : fitJ [] pl = true := rfl
/-- The occurrences of a Near. -/
def nearR (p q J : List Int) : List (List Int) := (occR p q).filter (fitJ J)
def numNear (p q J : List Int) : Int := if isP p && nearOK q J then ((nearR p q J).length : Int) else -1
theorem numNear_yes {p q J : List Int} (hp : isP p = true) (h : nearOK q J = true) : numNear p q J = ((nearR p q J).length : Int) := by unfold numNear; rw [if_pos (by simp [hp, h])]
theorem numNear_no {p q J : List Int} (h : isP p = false ∨ nearOK q J = false) : numNear p q J = -1 := by
  unfold numNear
  rw [if_neg (by rcases h with h | h <;> simp [h])]
theorem nearOK_nil {q : List Int} (hq : isP q = true) : nearOK q [] = true := nearOK_iff.2 ⟨hq, PlOK.nil _⟩
theorem near_plain (p q : List Int) : nearR p q [] = occR p q := List.filter_eq_self.2 fun _ _ => rfl
theorem near_le (p q J : List Int) : (nearR p q J).length ≤ (occR p q).length := List.length_filter_le _ _
theorem near_nodup (p q J : List Int) : (nearR p q J).Nodup := (asc_nodup (occ_asc p q)).sublist List.filter_sublist

/-! the reverse -/
theorem plRev_at {n : Nat} {pl : List Int} {i : Nat} (h : i < pl.length) : at0 (plRev n pl) i = (n : Int) + 1 - at0 pl (pl.length - 1 - i) := by
  unfold plRev
  rw [at0_rev (by rw [List.length_map]; exact h), List.length_map]
  exact at0_of (by rw [List.getElem?_map, at0_some (by omega)]; rfl)
theorem fit_rev {n : Nat} {J pl : List Int} (hJ : PlOK (pl.length - 1) J) (hf : fitJ J pl = true) : fitJ (plRev (pl.length - 1) J) (plRev n pl) = true := by
  rw [fitJ_iff] at hf ⊢
  intro j hj
  unfold plRev at hj
  rw [List.mem_reverse, List.mem_map] at hj
  obtain ⟨x, hx, rfl⟩ := hj
  have hr := hJ.1 x hx
  have h1 := hf x hx
  rw [plRev_at (by omega), plRev_at (by omega)]
  rw [show pl.length - 1 - (((pl.length - 1 : Nat) : Int) + 1 - x).toNat = x.toNat - 1 by omega, show pl.length - 1 - ((((pl.length - 1 : Nat) : Int) + 1 - x).toNat - 1) = x.toNat by omega]
  omega
theorem near_rev_le {p q J : List Int} (hJ : PlOK (q.length - 1) J) : (nearR p q J).length ≤ (nearR p.reverse q.reverse (plRev (q.length - 1) J)).length :=
  inject_le (plRev p.length) (near_nodup p q J) (fun pl h => by
    unfold nearR at h ⊢
    rw [List.mem_filter] at h ⊢
    have hl := (isOcc_iff.1 (mem_occ.1 h.1)).2.2.1
    exact ⟨occ_rev h.1, by rw [← hl] at hJ ⊢; exact fit_rev hJ h.2⟩) fun x _ y _ e => by rw [← plRev_back p.length x, e, plRev_back]
theorem near_rev {p q J : List Int} (hJ : PlOK (q.length - 1) J) : (nearR p.reverse q.reverse (plRev (q.length - 1) J)).length = (nearR p q J).length := by
  have h1 := near_rev_le (p := p) (q := q) hJ
  have h2 := near_rev_le (p := p.reverse) (q := q.reverse) (J := plRev (q.length - 1) J) (by rw [List.length_reverse]; exact plRev_ok hJ)
  rw [List.reverse_reverse, List.reverse_reverse, List.length_reverse, plRev_back] at h2
  omega

/-! all places joined -/
def conJ (n : Nat) : List Int := (List.range (n - 1)).map fun (i : Nat) => (i : Int) + 1
theorem conJ_mem {n : Nat} {j : Int} : j ∈ conJ n ↔ 1 ≤ j ∧ j ≤ ((n - 1 : Nat) : Int) := by
  unfold conJ
  rw [List.mem_map]
  constructor
  · rintro ⟨i, hi, rfl⟩
    rw [List.mem_range] at hi
    omega
  · rintro ⟨h1, h2⟩
    exact ⟨j.toNat - 1, List.mem_range.2 (by omega), by omega⟩
theorem conJ_ok (n : Nat) : PlOK (n - 1) (conJ n) := by
  refine ⟨fun x hx => by have := conJ_mem.1 hx; omega, ?_⟩
  unfold conJ
  rw [List.pairwise_map]
  exact List.pairwise_lt_range.imp fun h => by omega
theorem con_near {q : List Int} (hq : isP q = true) : nearOK q (conJ q.length) = true := nearOK_iff.2 ⟨hq, conJ_ok _⟩
/-- Places in a run. -/
def runPl (k m : Nat) : List Int := (List.range m).map fun (i : Nat) => ((k + i : Nat) : Int) + 1
theorem runPl_length (k m : Nat) : (runPl k m).length = m := by simp [runPl]
theorem runPl_at {k m i : Nat} (h : i < m) : at0 (runPl k m) i = ((k + i : Nat) : Int) + 1 := at0_of (by unfold runPl; rw [List.getElem?_map, List.getElem?_range h]; rfl)
theorem runPl_ok {k m n : Nat} (h : k + m ≤ n) : PlOK n (runPl k m) := by
  constructor
  · intro x hx
    unfold runPl at hx
    rw [List.mem_map] at hx
    obtain ⟨i, hi, rfl⟩ := hx
    rw [List.mem_range] at hi
    omega
  · unfold runPl
    rw [List.pairwise_map]
    exact List.pairwise_lt_range.imp fun h => by omega
theorem runPl_nums {p : List Int} {k m : Nat} (h : k + m ≤ p.length) : nums p (runPl k m) = (p.drop k).take m := by
  refine ext_at0 (by rw [nums_length, runPl_length, List.length_take, List.length_drop]; omega) fun i hi => ?_
  rw [nums_length, runPl_length] at hi
  rw [nums_at0 (by rw [runPl_length]; exact hi), runPl_at hi]
  refine (at0_of ?_).symm
  rw [List.getElem?_take, if_pos hi, List.getElem?_drop, at0_some (by omega)]
  congr 2
theorem runPl_fit (k m : Nat) : fitJ (conJ m) (runPl k m) = true := by
  rw [fitJ_iff]
  intro j hj
  have := conJ_mem.1 hj
  rw [runPl_at (by omega), runPl_at (by omega)]
  omega
theorem fit_run {pl : List Int} {n : Nat} (hok : PlOK n pl) (h0 : 0 < pl.length) (hf : fitJ (conJ pl.length) pl = true) : pl = runPl ((at0 pl 0).toNat - 1) pl.length ∧ (at0 pl 0).toNat - 1 + pl.length ≤ n := by
  rw [fitJ_iff] at hf
  have h1 := hok.rng h0
  have key : ∀ i, i < pl.length → at0 pl i = at0 pl 0 + (i : Int) := by
    intro i
    induction i with
    | zero => intro _; simp
    | succ i ih =>
      intro hi
      have h2 := hf ((i : Int) + 1) (conJ_mem.2 (by omega))
      rw [show ((i : Int) + 1).toNat = i + 1 by omega, Nat.add_sub_cancel, ih (by omega)] at h2
      rw [h2]; omega
  refine ⟨ext_at0 (by rw [runPl_length]) fun i hi => by rw [runPl_at hi, key i hi]; omega, ?_⟩
  have h3 := key (pl.length - 1) (by omega)
  have h4 := hok.rng (i := pl.length - 1) (by omega)
  omega
/-- The beginnings of the runs with this pattern, among the first k. -/
def runK (p q : List Int) (k : Nat) : List Nat := (List.range k).filter fun i => decide (patL ((p.drop i).take q.length) = q)
def runN (p q : List Int) : Nat := (runK p q (p.length + 1 - q.length)).length
theorem near_runs {p q : List Int} (hp : isP p = true) (hq : isP q = true) (h0 : 0 < q.length) : (nearR p q (conJ q.length)).length = runN p q := by
  have hin : ∀ pl, pl ∈ nearR p q (conJ q.length) ↔ pl ∈ (runK p q (p.length + 1 - q.length)).map fun k => runPl k q.length := by
    intro pl
    unfold nearR
    rw [List.mem_filter, mem_occ, isOcc_iff, List.mem_map]
    constructor
    · rintro ⟨⟨_, _, h1, h2, h3⟩, h4⟩
      rw [← h1] at h4
      obtain ⟨h5, h6⟩ := fit_run h2 (by omega) h4
      refine ⟨(at0 pl 0).toNat - 1, ?_, by rw [← h1]; exact h5.symm⟩
      unfold runK
      rw [List.mem_filter, List.mem_range, decide_eq_true_eq, ← runPl_nums (by omega), ← h1, ← h5]
      exact ⟨by omega, h3.trans rfl⟩
    · rintro ⟨k, hk, rfl⟩
      unfold runK at hk
      rw [List.mem_filter, List.mem_range, decide_eq_true_eq] at hk
      exact ⟨⟨hp, hq, runPl_length _ _, runPl_ok (by omega), by rw [runPl_nums (by omega)]; exact hk.2⟩, runPl_fit _ _⟩
  have hnd : ((runK p q (p.length + 1 - q.length)).map fun k => runPl k q.length).Nodup := by
    rw [List.nodup_iff_pairwise_ne, List.pairwise_map]
    refine ((List.pairwise_lt_range (n := p.length + 1 - q.length)).sublist (List.filter_sublist (p := fun i => decide (patL ((p.drop i).take q.length) = q)))).imp fun {a b} hab e => ?_
    have h1 := congrArg (fun l => at0 l 0) e
    simp only [runPl_at h0] at h1
    omega
  have h1 := pigeonL_le (near_nodup p q (conJ q.length)) fun x hx => (hin x).1 hx
  have h2 := pigeonL_le hnd fun x hx => (hin x).2 hx
  rw [List.length_map] at h1 h2
  unfold runN
  omega
end Go.Proofs.Ytichenjbkclljaa


/-
  LISTS OF ROWS AS ARGUMENTS: how they read; szIntS, szIntSS, toIntSS by their contracts.
-/

namespace Go.Proofs.Ytichenjbkclljaa
set_option maxRecDepth 100000
open Go.RowKit Go.ChangeShapes Go.WideShapes Go.ChangeAt

/-- The slice value '.slice A n c' holds rows that read as the lists zss, all below block B. -/
structure ReadsS (w : World) (B : Nat) (A : Option Addr) (n : Nat) (zss : List (List Int)) : Prop where
  len : zss.length = n
  rows : 0 < n → ∃ ad, A = some ad ∧ ad.block < B ∧ ∀ (j : Nat) z, zss[j]? = some z → ∃ A' c', w.cell? (ad.add j) = some (.slice A' z.length c') ∧ Reads w B A' z.length (i64s z)
theorem ReadsS.below {w w' : World} {B n : Nat} {A : Option Addr} {zss : List (List Int)} (h : ReadsS w B A n zss) (hb : Below B w w') : ReadsS w' B A n zss :=
  ⟨h.len, fun hn => by
    obtain ⟨ad, e, h1, h2⟩ := h.rows hn
    refine ⟨ad, e, h1, fun j z hz => ?_⟩
    obtain ⟨A', c', h3, h4⟩ := h2 j z hz
    exact ⟨A', c', (hb.cell (by rw [block_of_add]; exact h1)).trans h3, h4.below hb⟩⟩
theorem ReadsS.at_ {w : World} {B n k : Nat} {A : Option Addr} {zss : List (List Int)} (h : ReadsS w B A n zss) (hk : k < n) : ∃ ad A' c' z, A = some ad ∧ zss[k]? = some z ∧ w.cell? (ad.add k) = some (.slice A' z.length c') ∧ Reads w B A' z.length (i64s z) := by
  obtain ⟨ad, e, h1, h2⟩ := h.rows (by omega)
  have hz : zss[k]? = some (zss[k]'(by rw [h.len]; exact hk)) := List.getElem?_eq_getElem _
  obtain ⟨A', c', h3, h4⟩ := h2 k _ hz
  exact ⟨ad, A', c', _, e, hz, h3, h4⟩
theorem list_of {β : Type} {P : Nat → β → Prop} : ∀ n : Nat, (∀ i, i < n → ∃ z, P i z) → ∃ l : List β, l.length = n ∧ ∀ (i : Nat) z, l[i]? = some z → P i z
  | 0, _ => ⟨[], rfl, fun i z h => by simp at h⟩
  | n + 1, h => by
    obtain ⟨l, h1, h2⟩ := list_of n fun i hi => h i (by omega)
    obtain ⟨z, hz⟩ := h n (by omega)
    refine ⟨l ++ [z], by simp [h1], fun i y hy => ?_⟩
    by_cases hi : i < l.length
    · rw [List.getElem?_append_left hi] at hy
      exact h2 i y hy
    · rw [List.getElem?_append_right (by omega)] at hy
      have h0 : i - l.length = 0 := by
        have := (List.getElem?_eq_some_iff.1 hy).1
        simp at this
        omega
      rw [h0] at hy
      simp at hy
      subst hy
      rw [show i = n by omega]
      exact hz
/-- An argument [][]int, as 'ReadsS'. -/
theorem open_intss_reads {H : Type} {enc : TypeId × Value → H} {P : Program} {w : World} {r : Reach} {b0 t e ei : TypeId} {v : Value} {d : DataW H} {ps : List MemPlace} (ht : P.underlying t = some (.slice e)) (he : P.underlying e = some (.slice ei)) (hei : P.underlying ei = some (.int .i64)) (hc : P.cellsOf e = 1) (hci : P.cellsOf ei = 1)
    (hval : Value.okWide P w r b0 t v) (h : DataW.Trod enc P w 0 (fun _ => true) true t v d ps) (hlt : ∀ x ∈ ps, x.block < w.heap.size) :
    ∃ (A : Option Addr) (n c : Nat) (zss : List (List Int)), v = .slice A n c ∧ ReadsS w w.heap.size A n zss ∧ n ≤ maxLen ∧ ∀ z ∈ zss, z.length ≤ maxLen ∧ Small z := by
  obtain ⟨a0, len, cap, rfl⟩ := okWide_slice ht hval
  obtain ⟨fuel, hf⟩ := h
  rcases DataW.trod_slice ht hf with ⟨hcs, hx⟩ | ⟨a, len', cap', elems, rest, m, _, hcs, hx, _, hl, hm, hlen, hel, _, _⟩
  · simp [Value.cells] at hcs
    obtain ⟨rfl, rfl, rfl⟩ := hcs
    exact ⟨none, 0, 0, [], rfl, ⟨rfl, fun h => absurd h (by omega)⟩, Nat.zero_le _, by simp⟩
  · simp [Value.cells] at hcs
    obtain ⟨rfl, rfl, rfl⟩ := hcs
    simp only [Prod.mk.injEq] at hx
    obtain ⟨_, rfl⟩ := hx
    have each : ∀ i, i < len → ∃ z : List Int, (∃ A' c', w.cell? (a.add i) = some (.slice A' z.length c') ∧ Reads w w.heap.size A' z.length (i64s z)) ∧ z.length ≤ maxLen ∧ Small z := by
      intro i hi
      have h1 := hel i hi
      rw [hc, Nat.mul_one, List.getElem?_eq_getElem (by omega), Option.bind_eq_some_iff] at h1
      obtain ⟨cs', hcs', htr⟩ := h1
      have hq : ∀ x ∈ (elems[i]'(by omega)).2, x.block < w.heap.size := fun x hx => hlt x (by
        refine List.mem_append.2 (.inr (List.mem_flatMap.2 ⟨elems[i]'(by omega), List.mem_append.2 (.inl (List.getElem_mem _)), hx⟩))
      )
      rcases open_ints he hei hci htr with ⟨rfl, _⟩ | ⟨a', len'', cap'', zs, rfl, _, hl', hm', hz, hx', hcell, hws⟩
      · exact ⟨[], ⟨none, 0, cell_of_cells?_one hcs', Reads.none_⟩, Nat.zero_le _, fun z hz => by simp at hz⟩
      · simp only [if_true] at hz
        have e1 : (zs.take len'').length = len'' := by rw [List.length_take]; omega
        refine ⟨zs.take len'', ⟨some a', cap'', by rw [e1]; exact cell_of_cells?_one hcs', ?_⟩, by omega, small_of_wf fun z hz => hws z (List.mem_of_mem_take hz)⟩
        refine ⟨by rw [i64_length], fun hn => ⟨a', rfl, ?_, fun j u hu => ?_⟩⟩
        · rw [hx'] at hq
          exact lt_of_row (j := 0) hq (by omega)
        · unfold i64s at hu
          rw [List.getElem?_map, List.getElem?_take] at hu
          by_cases hj : j < len''
          · rw [if_pos hj] at hu
            rw [hcell j (by omega), ← hu, List.getD_eq_getElem?_getD]
            have : zs[j]? = some zs[j] := List.getElem?_eq_getElem (by omega)
            rw [this]; rfl
          · rw [if_neg hj] at hu; cases hu
    obtain ⟨zss, hz1, hz2⟩ := list_of len each
    refine ⟨some a, len, cap, zss, rfl, ⟨hz1, fun hn => ⟨a, rfl, ?_, fun j z hz => (hz2 j z hz).1⟩⟩, by omega, fun z hz => ?_⟩
    · rw [hc] at hlt
      refine lt_of_row (m := (elems.length + rest.length) * 1) (j := 0) (fun x hx => hlt x (List.mem_append.2 (.inl hx))) (by omega)
    · obtain ⟨i, hi, rfl⟩ := List.getElem_of_mem hz
      exact (hz2 i _ (List.getElem?_eq_getElem hi)).2
theorem cellsRow : Try.prog.cellsOf 24 = 1 := by kernel_rfl

theorem szi_any (A : Option Addr) (n c : Nat) (L : Int) (hL : 0 ≤ L ∧ L ≤ 1048576) (hn : n ≤ maxLen) (w : World) :
    Calls Try.prog 77 #[.slice A n c, .int .i64 L] w fun e w' => e = .returned (.int .i64 (if L < n then -1 else L - n)) ∧ w = w' := by
  unfold maxLen at hn
  obtain ⟨hL1, hL2⟩ := hL
  by_cases hlt : L < n
  · rw [if_pos hlt]
    have h1 : L - (n : Int) < 0 := by omega
    go_enter Try.func77, Try.ntmps77
    go_wp2
    go_ret
    exact ⟨rfl, rfl⟩
  · rw [if_neg hlt]
    have h1 : ¬ L - (n : Int) < 0 := by omega
    go_enter Try.func77, Try.ntmps77
    go_wp2
    go_ret
    exact ⟨rfl, rfl⟩
end Go.Proofs.Ytichenjbkclljaa


/-
  Structs of two rows: the words for them; eqNear, markNear, heldNear, szNear, toNear by their contracts.
-/

namespace Go.Proofs.Ytichenjbkclljaa
set_option maxRecDepth 100000
open Go.RowKit

/-- Two rows from block B on, apart from one another. -/
structure NearAt (w : World) (B : Nat) (pv jv : Value) (q J : List Int) : Prop where
  p : Ints w B pv q
  j : Ints w B jv J
  away : Away pv jv
theorem NearAt.below {w w' : World} {B : Nat} {pv jv : Value} {q J : List Int} (h : NearAt w B pv jv q J) (hb : Below w.heap.size w w') : NearAt w' B pv jv q J := ⟨h.p.below hb, h.j.below hb, h.away⟩
theorem NearAt.low {w : World} {B B' : Nat} {pv jv : Value} {q J : List Int} (h : NearAt w B pv jv q J) (hB : B' ≤ B) : NearAt w B' pv jv q J := ⟨h.p.low hB, h.j.low hB, h.away⟩
theorem Ints.past {w : World} {B : Nat} {v : Value} {zs : List Int} (h : Ints w B v zs) {p : Addr} (hp : p.block < B) (u : Value) : Ints (w.setCell p u) B v zs := by
  refine ⟨h.1, ?_⟩
  rcases h.2 with hn | ⟨g, cap, cur, e, rfl, hb, hgg, h1, h2, he⟩
  · exact .inl hn
  · exact .inr ⟨g, cap, cur, e, rfl, hb, (Below.heap_setCell w p u g (by omega)).trans hgg, h1, h2, he⟩
theorem NearAt.past {w : World} {B : Nat} {pv jv : Value} {q J : List Int} (h : NearAt w B pv jv q J) {p : Addr} (hp : p.block < B) (u : Value) : NearAt (w.setCell p u) B pv jv q J := ⟨h.p.past hp u, h.j.past hp u, h.away⟩
/-- .. and below block U. -/
def NSeal (w : World) (B U : Nat) (pv jv : Value) (q J : List Int) : Prop := NearAt w B pv jv q J ∧ Until U pv ∧ Until U jv
section
variable {w w' : World} {B U : Nat} {pv jv : Value} {q J : List Int}
theorem NearAt.sealed (h : NearAt w B pv jv q J) : NSeal w B w.heap.size pv jv q J := ⟨h, h.p.until_, h.j.until_⟩
theorem NSeal.opened (h : NSeal w B U pv jv q J) : NearAt w B pv jv q J := h.1
theorem NSeal.below (h : NSeal w B U pv jv q J) (hb : Below w.heap.size w w') : NSeal w' B U pv jv q J := ⟨h.1.below hb, h.2⟩
theorem NSeal.after {u : Value} {E : Nat} (h : NSeal w B U pv jv q J) (hg : w.grownBy w' u.ownBlock) (hu : Until E u) (hE : E ≤ B) : NSeal w' B U pv jv q J :=
  ⟨⟨h.1.p.kept hg (apart' h.1.p.since hu hE), h.1.j.kept hg (apart' h.1.j.since hu hE), h.1.away⟩, h.2⟩
theorem NSeal.turnLow {B0 U0 : Nat} (h : NSeal w B0 U0 pv jv q J) (ht : Turned B U w w') (hU : U0 ≤ B) : NSeal w' B0 U0 pv jv q J :=
  ⟨⟨h.1.p.turnLow h.2.1 ht hU, h.1.j.turnLow h.2.2 ht hU, h.1.away⟩, h.2⟩
theorem NSeal.turnHigh {B0 U0 : Nat} (h : NSeal w B0 U0 pv jv q J) (ht : Turned B U w w') (hU : U ≤ B0) : NSeal w' B0 U0 pv jv q J :=
  ⟨⟨h.1.p.turnHigh ht hU, h.1.j.turnHigh ht hU, h.1.away⟩, h.2⟩
end
/-- A struct of two rows, and whether. -/
def GivesNB (w : World) (q J : List Int) (b : Bool) (e : Ending) (w' : World) : Prop :=
  ∃ A c P d, e = .returned (.tuple #[.agg #[.slice A q.length c, .slice P J.length d], .bool b]) ∧ NearAt w' w.heap.size (.slice A q.length c) (.slice P J.length d) q J ∧ Below w.heap.size w w'
def GivesNr (w : World) (q J : List Int) (e : Ending) (w' : World) : Prop :=
  ∃ A c P d, e = .returned (.agg #[.slice A q.length c, .slice P J.length d]) ∧ NearAt w' w.heap.size (.slice A q.length c) (.slice P J.length d) q J ∧ Below w.heap.size w w'
theorem GivesNB.mk {w w' : World} {pv jv : Value} {q J : List Int} (b : Bool) (h : NearAt w' w.heap.size pv jv q J) (hb : Below w.heap.size w w') : GivesNB w q J b (.returned (.tuple #[.agg #[pv, jv], .bool b])) w' := by
  obtain ⟨A, c, rfl⟩ := h.p.slice
  obtain ⟨P, d, rfl⟩ := h.j.slice
  exact ⟨A, c, P, d, rfl, h, hb⟩
theorem GivesNr.mk {w w' : World} {pv jv : Value} {q J : List Int} (h : NearAt w' w.heap.size pv jv q J) (hb : Below w.heap.size w w') : GivesNr w q J (.returned (.agg #[pv, jv])) w' := by
  obtain ⟨A, c, rfl⟩ := h.p.slice
  obtain ⟨P, d, rfl⟩ := h.j.slice
  exact ⟨A, c, P, d, rfl, h, hb⟩
theorem NearAt.none_ (w : World) (B : Nat) : NearAt w B (.slice none 0 0) (.slice none 0 0) [] [] := ⟨Ints.nil w B, Ints.nil w B, .inl rfl⟩

set_option maxHeartbeats 800000 in
theorem eqnear_any (A P A' P' : Option Addr) (n c m d n' c' m' d' B B' : Nat) (q J : List Int) (w : World) (h : NearAt w B (.slice A n c) (.slice P m d) q J) (h' : NearAt w B' (.slice A' n' c') (.slice P' m' d') q J)
    (hr : q.length ≤ 1048576) (hp : J.length ≤ 1048576) :
    Calls Try.prog 46 #[.agg #[.slice A n c, .slice P m d], .agg #[.slice A' n' c', .slice P' m' d']] w (GivesB w true) := by
  have b1' := (Below.refl _ w).alloc (Nat.le_refl _) (.cells #[.slice A n c, .slice P m d] 52)
  have b2' := b1'.alloc (by simp) (.cells #[.slice A' n' c', .slice P' m' d'] 52)
  have g1 := (Whole.new w 52 #[.slice A n c, .slice P m d]).alloc (.cells #[.slice A' n' c', .slice P' m' d'] 52)
  have g2 := Whole.new (w.alloc (.cells #[.slice A n c, .slice P m d] 52)) 52 #[.slice A' n' c', .slice P' m' d']
  simp only [World.size_alloc] at g2
  have i1 := h.below b2'
  have i2 := h'.below b2'
  have l1 := i1.p.len
  have l2 := i1.j.len
  have H1 := hide (eqi_any A A' n c n' c' _ _ q _ i1.p.reads i2.p.reads (by omega))
  have HI := hide (And.intro i1 i2)
  clear b1' i1 i2 h h'
  go_enter Try.func46, Try.ntmps46
  go_wp2_with fail
  refine (unhide H1).mono ?_
  rintro e w3 ⟨rfl, hd⟩
  have hb3 := b2'.trans (hd.below _)
  have k1 := (Whole.below g1 (hd.below (w.heap.size + 2)) (by omega)).cell 1
  have k2 := (Whole.below g2 (hd.below (w.heap.size + 2)) (by omega)).cell 1
  simp only [List.getElem?_toArray, List.getElem?_cons_zero, List.getElem?_cons_succ] at k1 k2
  have H2 := hide (eqi_any P P' m d m' d' _ _ J w3 ((unhide HI).1.below (hd.below _)).j.reads ((unhide HI).2.below (hd.below _)).j.reads (by omega))
  clear H1 hd b2' g1 g2 HI
  go_wp2_with fail
  refine (unhide H2).mono ?_
  rintro e w4 ⟨rfl, hd4⟩
  have hb5 := hb3.trans (hd4.below _)
  clear H2 hd4 hb3
  go_wp2
  go_ret
  exact ⟨rfl, hb5⟩
def szN (L : Int) (n m : Nat) : Int := if L < n + m then -1 else L - n - m
set_option maxHeartbeats 800000 in
theorem sznear_any (A P : Option Addr) (n c m d : Nat) (L : Int) (hL : 0 ≤ L ∧ L ≤ 1048576) (w : World) (hn : n ≤ maxLen) (hm : m ≤ maxLen) :
    Calls Try.prog 42 #[.agg #[.slice A n c, .slice P m d], .int .i64 L] w fun e w' => e = .returned (.int .i64 (szN L n m)) ∧ Below w.heap.size w w' := by
  have b1 := (Below.refl _ w).alloc (Nat.le_refl _) (.cells #[.slice A n c, .slice P m d] 49)
  have g1 := Whole.new w 49 #[.slice A n c, .slice P m d]
  have k1 := g1.cell 1
  simp only [List.getElem?_toArray, List.getElem?_cons_zero, List.getElem?_cons_succ] at k1
  obtain ⟨hL1, hL2⟩ := hL
  have H1 := hide (szi_any A n c L ⟨hL1, hL2⟩ hn (w.alloc (.cells #[.slice A n c, .slice P m d] 49)))
  by_cases hlt : L < n
  · rw [if_pos hlt] at H1
    have hx : szN L n m = -1 := by unfold szN; rw [if_pos (by omega)]
    rw [hx]
    clear hx g1
    go_enter Try.func42, Try.ntmps42
    go_wp2_with fail
    refine (unhide H1).mono ?_
    rintro e w3 ⟨rfl, rfl⟩
    clear H1
    go_wp2
    go_ret
    exact ⟨rfl, b1⟩
  · rw [if_neg hlt] at H1
    have H2 := hide (szi_any P m d (L - (n : Int)) (by omega) hm (w.alloc (.cells #[.slice A n c, .slice P m d] 49)))
    have hx : (if L - (n : Int) < (m : Int) then (-1 : Int) else L - (n : Int) - (m : Int)) = szN L n m := by
      unfold szN
      by_cases h : L - (n : Int) < (m : Int)
      · rw [if_pos h, if_pos (by omega)]
      · rw [if_neg h, if_neg (by omega)]
    rw [hx] at H2
    obtain ⟨r, hr0⟩ : ∃ r, szN L n m = r := ⟨_, rfl⟩
    have hrr : r = -1 ∨ 0 ≤ r := by
      rw [← hr0]; unfold szN
      by_cases h : L < n + m
      · rw [if_pos h]; exact .inl rfl
      · rw [if_neg h]; right; omega
    rw [hr0] at H2 ⊢
    have h0 : ¬ L - (n : Int) < 0 := by omega
    clear hx g1 hr0
    go_enter Try.func42, Try.ntmps42
    go_wp2_with fail
    refine (unhide H1).mono ?_
    rintro e w3 ⟨rfl, rfl⟩
    clear H1
    go_wp2_with fail
    refine (unhide H2).mono ?_
    rintro e w4 ⟨rfl, rfl⟩
    clear H2
    rcases hrr with rfl | hr0
    · go_wp2
      go_ret
      exact ⟨rfl, b1⟩
    · have h1 : ¬ r < 0 := by omega
      go_wp2
      go_ret
      exact ⟨rfl, b1⟩
theorem nearInfo : (Try.prog.info? 52).map (·.size) = some 2 := by kernel_rfl
set_option maxHeartbeats 1600000 in
theorem tonear_any (A P : Option Addr) (n c m d B : Nat) (p J : List Int) (w : World) (hp : Reads w B A n (i64s p)) (hr : Reads w B P m (i64s J)) (hB : B ≤ w.heap.size) (hn : n ≤ 1048576) (hm : m ≤ 1048576) :
    Calls Try.prog 44 #[.agg #[.slice A n c, .slice P m d]] w (GivesNr w p J) := by
  have b1 := (Below.refl _ w).alloc (Nat.le_refl _) (.cells #[.slice A n c, .slice P m d] 49)
  have b2 := b1.alloc (by simp) (.cells #[.slice none 0 0, .slice none 0 0] 52)
  have b3 := b2.alloc (by simp; omega) (.cells #[.slice none 0 0, .slice none 0 0] 52)
  have g1 := ((Whole.new w 49 #[.slice A n c, .slice P m d]).alloc (.cells #[.slice none 0 0, .slice none 0 0] 52)).alloc (.cells #[.slice none 0 0, .slice none 0 0] 52)
  have g2 := (Whole.new (w.alloc (.cells #[.slice A n c, .slice P m d] 49)) 52 #[.slice none 0 0, .slice none 0 0]).alloc (.cells #[.slice none 0 0, .slice none 0 0] 52)
  have g3 := Whole.new ((w.alloc (.cells #[.slice A n c, .slice P m d] 49)).alloc (.cells #[.slice none 0 0, .slice none 0 0] 52)) 52 #[.slice none 0 0, .slice none 0 0]
  simp only [World.size_alloc] at g2 g3
  have H1 : Hid (Calls Try.prog 36 #[.slice A n c] (((w.alloc (.cells #[.slice A n c, .slice P m d] 49)).alloc (.cells #[.slice none 0 0, .slice none 0 0] 52)).alloc (.cells #[.slice none 0 0, .slice none 0 0] 52))
      (fun e w' => ∃ A' c', e = .returned (.slice A' n c') ∧ Ints w' (w.heap.size + 1 + 1 + 1) (.slice A' n c') p ∧ Below (w.heap.size + 1 + 1 + 1) (((w.alloc (.cells #[.slice A n c, .slice P m d] 49)).alloc (.cells #[.slice none 0 0, .slice none 0 0] 52)).alloc (.cells #[.slice none 0 0, .slice none 0 0] 52)) w')) :=
    hide ((toi_any A n c B p _ (hp.below (b3.mono hB)) (Nat.le_trans hB b3.size) (by omega)).mono (by
      rintro e w' ⟨rfl, o, d⟩
      simp only [World.size_alloc] at o d ⊢
      exact ⟨_, _, rfl, o, d⟩))
  have hr3 := hr.below (b3.mono hB)
  have hbB := b3.mono hB
  have HR := hide (And.intro hr3 hbB)
  have HL : Hid (p.length = n ∧ J.length = m) := hide ⟨by have := hp.1; rwa [i64_length] at this, by have := hr.1; rwa [i64_length] at this⟩
  clear b1 b2 hp hr hr3 hbB
  go_enter Try.func44, Try.ntmps44
  go_wp2_with fail
  refine (unhide H1).mono ?_
  rintro e w2 ⟨A2, c2, rfl, o2, d2⟩
  have hb2 := b3.trans (d2.mono (by omega))
  have e1 := g1.below d2 (by omega)
  have e2 := g2.below d2 (by omega)
  have e3 := g3.below d2 (by omega)
  have p1 := e1.cell 1
  have q0 := e3.cell 0
  have q1 := e3.cell 1
  have f0 := e3.frozen 0
  have l3 := e3.lt
  simp only [List.getElem?_toArray, List.getElem?_cons_zero, List.getElem?_cons_succ] at p1 q0 q1
  have l2 := d2.size
  simp only [World.size_alloc] at l2
  have i1 := e1.far (p := ⟨w.heap.size + 1 + 1, 0, none⟩) (by simp; omega) (.slice A2 n c2)
  have i2 := e2.far (p := ⟨w.heap.size + 1 + 1, 0, none⟩) (by simp) (.slice A2 n c2)
  have i3 := e3.put 0 (.slice A2 n c2)
  have o3 := o2.past (p := ⟨w.heap.size + 1 + 1, 0, none⟩) (by simp) (.slice A2 n c2)
  have hb3 := hb2.setCell (p := ⟨w.heap.size + 1 + 1, 0, none⟩) (by simp; omega) (.slice A2 n c2)
  have H2 : Hid (Calls Try.prog 36 #[.slice P m d] (w2.setCell ⟨w.heap.size + 1 + 1, 0, none⟩ (.slice A2 n c2))
      (fun e w' => ∃ g, e = .returned (.slice (some ⟨g, 0, none⟩) m m) ∧ Ints w' w2.heap.size (.slice (some ⟨g, 0, none⟩) m m) J ∧ Below w2.heap.size (w2.setCell ⟨w.heap.size + 1 + 1, 0, none⟩ (.slice A2 n c2)) w')) := by
    have hr4 := (unhide HR).1.below ((d2.mono (show B ≤ _ by omega)).setCell (p := ⟨w.heap.size + 1 + 1, 0, none⟩) (by simp; omega) (.slice A2 n c2))
    refine hide ((toi_any P m d B J _ hr4 (by simp; omega) (by omega)).mono ?_)
    rintro e w' ⟨rfl, o, d⟩
    simp only [World.size_setCell] at o d ⊢
    exact ⟨_, rfl, o, d⟩
  have hu2 := o2.until_
  clear H1 e1 e2 e3 hb2 b3 d2 o2 HR g1 g2 g3
  go_wp2_with fail
  refine (unhide H2).mono ?_
  rintro e w4 ⟨g, rfl, o4, d4⟩
  have j2 := i2.below d4 (by omega)
  have j3 := i3.below d4 (by omega)
  have hb4 := hb3.trans (d4.mono (by omega))
  have o5 := Row.stay o3 hu2 d4
  have HI : Hid (NearAt w4 (w.heap.size + 1 + 1 + 1) (.slice A2 n c2) (.slice (some ⟨g, 0, none⟩) m m) p J) := hide ⟨o5, o4.low (by omega), apart hu2 o4.since (by omega)⟩
  have q0 := j3.cell 0
  have q1 := j3.cell 1
  have f1 := j3.frozen 1
  have r0 := j2.cell 0
  have r1 := j2.cell 1
  have s0 := j2.frozen 0
  have s1 := j2.frozen 1
  have l4 := j3.lt
  simp only [List.setIfInBounds_toArray, List.set_cons_zero, List.getElem?_toArray, List.getElem?_cons_zero, List.getElem?_cons_succ] at q0 q1 r0 r1
  have HJ := hide (And.intro j2 j3)
  obtain ⟨hl1, hl2⟩ := unhide HL
  clear o5 o4 d4 hu2 H2 hb3 i1 i2 i3 o3 j2 j3 HL p1
  go_wp2
  have hWe := ((unhide HJ).1.far (p := ⟨w.heap.size + 1 + 1, 1, none⟩) (by simp) (.slice (some ⟨g, 0, none⟩) m m)).put 0 (.slice A2 n c2) |>.put 1 (.slice (some ⟨g, 0, none⟩) m m)
  refine bodyPost_ret (v := .agg #[.slice A2 n c2, .slice (some ⟨g, 0, none⟩) m m]) (results_cell_row Try.results44 _ _ (w.heap.size + 1) 52 _ (0, 0) _ rfl hWe Try.underlying52 rfl nearInfo) rfl ?_
  refine GivesNr.mk ((((unhide HI).past (p := ⟨w.heap.size + 1 + 1, 1, none⟩) (by simp) _).past (p := ⟨w.heap.size + 1, 0, none⟩) (by simp) _).past (p := ⟨w.heap.size + 1, 1, none⟩) (by simp) _ |>.low (by omega)) ?_
  exact ((hb4.setCell (by simp; omega) _).setCell (by simp) _).setCell (by simp) _
end Go.Proofs.Ytichenjbkclljaa


/-
  spec.l4Fit, spec.l4Join, spec.SumOf, spec.SkewSumOf, by their contracts.
-/

namespace Go.Proofs.Ytichenjbkclljaa
set_option maxRecDepth 100000
open Go.RowKit

def bitI (b : Bool) : Int := if b then 1 else 0
theorem bit_any (b : Bool) (w : World) : Calls Try.prog 54 #[.bool b] w fun e w' => e = .returned (.int .i64 (bitI b)) ∧ w' = w := by
  cases b with
  | true => exact bit_true w
  | false => exact bit_false w
theorem joinL_at1 {s : Bool} {p q : List Int} {k : Nat} {z : Int} (h : p[k]? = some z) : (joinL s p q)[k]? = some (z + bitI s * (q.length : Int)) := by
  have hk : k < p.length := (List.getElem?_eq_some_iff.1 h).1
  cases s with
  | true =>
    simp only [joinL, if_true, bitI]
    rw [List.getElem?_append_left (by simpa using hk), List.getElem?_map, h, Int.one_mul]; rfl
  | false =>
    simp only [joinL, bitI, Bool.false_eq_true, if_false]
    rw [List.getElem?_append_left hk, h, Int.zero_mul, Int.add_zero]
theorem joinL_at2 {s : Bool} {p q : List Int} {k : Nat} {z : Int} (h : q[k]? = some z) : (joinL s p q)[p.length + k]? = some (z + bitI (!s) * (p.length : Int)) := by
  cases s with
  | true =>
    simp only [joinL, if_true, bitI, Bool.not_true, Bool.false_eq_true, if_false]
    rw [List.getElem?_append_right (by simp), List.length_map, Nat.add_sub_cancel_left, h, Int.zero_mul, Int.add_zero]
  | false =>
    simp only [joinL, bitI, Bool.not_false, if_true, Bool.false_eq_true, if_false]
    rw [List.getElem?_append_right (by omega), Nat.add_sub_cancel_left, List.getElem?_map, h, Int.one_mul]; rfl
theorem bit_le (s : Bool) (n : Nat) : 0 ≤ bitI s * (n : Int) ∧ bitI s * (n : Int) ≤ n := by
  cases s
  · simp [bitI]
  · simp [bitI]

theorem keep_low {B : Nat} {wr w : World} {p : Addr} {v : Value} (h : wr.cell? p = some v) (hp : p.block < B) (hb : Below B wr w) : w.cell? p = some v ∧ Below B wr w := ⟨(hb.cell hp).trans h, hb⟩
end Go.Proofs.Ytichenjbkclljaa


/-
  spec.l8Fits, spec.IsNear, spec.CountNear, by their contracts.
-/

namespace Go.Proofs.Ytichenjbkclljaa
set_option maxRecDepth 100000
open Go.RowKit

theorem fitJ_step {J pl : List Int} {k : Nat} {x : Int} (hx : J[k]? = some x) (h : fitJ (J.take k) pl = true) (hf : at0 pl x.toNat = at0 pl (x.toNat - 1) + 1) : fitJ (J.take (k + 1)) pl = true := by
  rw [fitJ_iff] at h ⊢
  intro j hj
  rw [take_snoc_i hx, List.mem_append, List.mem_singleton] at hj
  rcases hj with hj | rfl
  · exact h j hj
  · exact hf
theorem fitJ_no {J pl : List Int} {k : Nat} {x : Int} (hx : J[k]? = some x) (hf : ¬ at0 pl x.toNat = at0 pl (x.toNat - 1) + 1) : fitJ J pl = false := by
  cases h : fitJ J pl with
  | false => rfl
  | true => exact absurd (fitJ_iff.1 h x (List.mem_of_getElem? hx)) hf
set_option maxHeartbeats 800000 in
theorem l8fits_any (A P : Option Addr) (n c B m d B' : Nat) (pl J : List Int) (w : World) (h : Arg w B A n c pl) (h' : Arg w B' P m d J) (hJ : PlOK (n - 1) J) (hpl : ∀ x ∈ pl, 1 ≤ x ∧ x ≤ 8) (hn : n ≤ 8) :
    Calls Try.prog 79 #[.slice A n c, .slice P m d] w fun e w' => e = .returned (.bool (fitJ J pl)) ∧ Drew w w' := by
  have hl := h.len
  have hl' := h'.len
  have hr := h.reads
  have hr' := h'.reads
  have hm := h'.le
  obtain ⟨b, hb⟩ : ∃ b, fitJ J pl = b := ⟨_, rfl⟩
  rw [hb]
  have HB := hide hb
  have HJ := hide (fun k x (hx : J[k]? = some x) => hJ.1 x (List.mem_of_getElem? hx))
  have HPL := hide (fun k x (hx : pl[k]? = some x) => hpl x (List.mem_of_getElem? hx))
  have HL := hide (⟨hl, hl'⟩ : pl.length = n ∧ J.length = m)
  clear h h' hJ hpl hl hl' hb
  go_enter Try.func79, Try.ntmps79
  go_wp2
  go_loopw [5] (fun i wr => ∃ k : Nat, k ≤ m ∧ i = .int .i64 k ∧ Drew w wr ∧ Hid (fitJ (J.take k) pl = true)) (fun i _ => m - (intOf i).toNat)
  case atStart => exact ⟨0, Nat.zero_le _, rfl, Drew.refl _, by exact (rfl : fitJ (J.take 0) pl = true)⟩
  case round =>
    obtain ⟨k, hk, rfl, hd, hs⟩ := hrel
    by_cases hlt : k < m
    · obtain ⟨ad, u, rfl, _, hu, hc⟩ := (hr'.ofDrew hd).at_ hlt
      obtain ⟨x, hx, rfl⟩ := i64_at hu
      have hxr := unhide HJ k x hx
      obtain ⟨ad1, u1, rfl, _, hu1, hc1⟩ := (hr.ofDrew hd).at_ (show x.toNat < n by omega)
      obtain ⟨ad2, u2, hA2, _, hu2, hc2⟩ := (hr.ofDrew hd).at_ (show x.toNat - 1 < n by omega)
      obtain rfl : ad1 = ad2 := by injection hA2
      obtain ⟨y, hy, rfl⟩ := i64_at hu1
      obtain ⟨z, hz, rfl⟩ := i64_at hu2
      have hzr := unhide HPL _ z hz
      have hyr := unhide HPL _ y hy
      have ey : at0 pl x.toNat = y := at0_of hy
      have ez : at0 pl (x.toNat - 1) = z := at0_of hz
      have hw1 : IntKind.i64.wrap (x - 1) = x - 1 := by rw [IntKind.wrap_i64]; omega
      have hw2 : IntKind.i64.wrap (z + 1) = z + 1 := by rw [IntKind.wrap_i64]; omega
      have hi2 : (x - 1).toNat = x.toNat - 1 := by omega
      have hb0 : 0 ≤ x := by omega
      have hb1 : x < (n : Int) := by omega
      have hb2 : 0 ≤ x - 1 := by omega
      have hb3 : x - 1 < (n : Int) := by omega
      have HD := hide hd
      by_cases hyz : y = z + 1
      · have hnext := hide (fitJ_step hx (unhide hs) (by rw [ey, ez]; exact hyz))
        subst hyz
        clear hx hy hz hu hu1 hu2 hs ey ez hr hr' hd hyr
        go_wp2
        go_quiet (fail)
        go_wp2
        go_roundw
        case rel => exact ⟨k + 1, by omega, by go_num, (unhide HD).more _, hnext⟩
        case measure => simp [intOf]; omega
      · obtain rfl : b = false := (unhide HB).symm.trans (fitJ_no hx (by rw [ey, ez]; exact hyz))
        have hne : (y == z + 1) = false := by simpa using hyz
        clear hx hy hz hu hu1 hu2 hs ey ez hr hr' hd hyr HB hyz
        go_wp2
        go_quiet (fail)
        go_wp2
        go_ret
        exact ⟨rfl, (unhide HD).more _⟩
    · obtain rfl : m = k := by omega
      obtain rfl : b = true := (unhide HB).symm.trans (by have h := unhide hs; rwa [List.take_of_length_le (by rw [(unhide HL).2]; exact Nat.le_refl _)] at h)
      clear HB hs
      go_wp2
      go_ret
      exact ⟨rfl, hd⟩
theorem take_last {J : List Int} {k : Nat} {y : Int} (hy : J[k]? = some y) : lastP (J.take (k + 1)) = y.toNat := by rw [take_snoc_i hy, lastP_snoc]
theorem plok_step {n : Nat} {J : List Int} {k : Nat} {x : Int} (hx : J[k]? = some x) : PlOK n (J.take (k + 1)) ↔ PlOK n (J.take k) ∧ (lastP (J.take k) : Int) < x ∧ x ≤ (n : Int) := by rw [take_snoc_i hx, PlOK.snoc]
theorem plok_no {n : Nat} {J : List Int} {k : Nat} (h : ¬ PlOK n (J.take k)) : ¬ PlOK n J := fun h2 => h (h2.take k)
theorem near_false {q J : List Int} (h : ¬ PlOK (q.length - 1) J) : nearOK q J = false := by unfold nearOK; rw [decide_eq_false h, Bool.and_false]
theorem near_true {q J : List Int} {b : Bool} (hq : isP q = b) (h : PlOK (q.length - 1) J) : nearOK q J = b := by unfold nearOK; rw [decide_eq_true h, Bool.and_true, hq]
set_option maxHeartbeats 1600000 in
theorem snear_any (A P : Option Addr) (n c B m d B' : Nat) (q J : List Int) (w : World) (h : Arg w B A n c q) (h' : Arg w B' P m d J) :
    Calls Try.prog 78 #[.agg #[.slice A n c, .slice P m d]] w (GivesB w (nearOK q J)) := by
  have hl := h.len
  have hl' := h'.len
  have hm := h'.le
  have hn := h.le
  obtain ⟨w0, hw0⟩ : ∃ w0, w0 = w.alloc (.cells #[.slice A n c, .slice P m d] 52) := ⟨_, rfl⟩
  have b0 : Below w.heap.size w w0 := by rw [hw0]; exact (Below.refl _ w).alloc (Nat.le_refl _) _
  have g0 : Whole w0 w.heap.size 52 #[.slice A n c, .slice P m d] := by rw [hw0]; exact Whole.new _ _ _
  have q0 := g0.cell 0
  have q1 := g0.cell 1
  simp only [List.getElem?_toArray, List.getElem?_cons_zero, List.getElem?_cons_succ] at q0 q1
  have hr' := (h'.below b0).reads
  obtain ⟨b, hb⟩ : ∃ b, nearOK q J = b := ⟨_, rfl⟩
  obtain ⟨bp, hbp⟩ : ∃ b, isP q = b := ⟨_, rfl⟩
  rw [hb]
  have HB := hide hb
  have HBP := hide hbp
  have HA := hide (fun wr (hd : Drew w0 wr) => sisperm_any A n c B q bp hbp wr (h.below (below_after b0 (hd.below _))).reads h.le h.cap)
  have HL := hide (⟨hl, hl'⟩ : q.length = n ∧ J.length = m)
  have HJS := hide (fun k x (hx : J[k]? = some x) => h'.small x (List.mem_of_getElem? hx))
  have hwn : IntKind.i64.wrap ((n : Int) - 1) = (n : Int) - 1 := by rw [IntKind.wrap_i64]; omega
  have HW := hide hw0
  clear h h' hl hl' hb hbp g0 hw0
  go_enter Try.func78, Try.ntmps78
  go_wp2
  rw [← unhide HW]
  clear HW
  go_loopw [3] (fun i wr => ∃ k : Nat, k ≤ m ∧ i = .int .i64 k ∧ Drew w0 wr ∧ Hid (PlOK (q.length - 1) (J.take k))) (fun i _ => m - (intOf i).toNat)
  case atStart => exact ⟨0, Nat.zero_le _, rfl, Drew.refl _, hide (PlOK.nil _)⟩
  case round =>
    obtain ⟨k, hk, rfl, hd, hs⟩ := hrel
    have c0 := (hd.cell ⟨w.heap.size, 0, none⟩).trans q0
    have c1 := (hd.cell ⟨w.heap.size, 1, none⟩).trans q1
    by_cases hlt : k < m
    · obtain ⟨ad, u, rfl, _, hu, hc⟩ := (hr'.ofDrew hd).at_ hlt
      obtain ⟨x, hx, rfl⟩ := i64_at hu
      obtain ⟨bi, hbi⟩ : ∃ bi, decide ((1 : Int) ≤ x ∧ x ≤ (n : Int) - 1) = bi := ⟨_, rfl⟩
      have HI := hide (fun w' => l1in_any x 1 ((n : Int) - 1) bi hbi w')
      have HD := hide hd
      have hstep := plok_step (n := q.length - 1) hx
      have hlq := (unhide HL).1
      cases bi with
      | false =>
        have hno : ¬ (1 ≤ x ∧ x ≤ (n : Int) - 1) := of_decide_eq_false hbi
        obtain rfl : b = false := (unhide HB).symm.trans (near_false (plok_no (k := k + 1) fun h2 => by
          have h3 := h2.1 x (by rw [take_snoc_i hx]; simp)
          omega))
        clear hx hu hs hbi hr' hd HB hstep hno q0 q1 hlq
        go_wp2
        go_quiet ((go_at_call 63; exact Calls.quiet_of_same (unhide HI _)))
        go_wp2
        go_ret
        exact ⟨rfl, below_after b0 (((unhide HD).more _).below _)⟩
      | true =>
        have hyes : 1 ≤ x ∧ x ≤ (n : Int) - 1 := of_decide_eq_true hbi
        by_cases h0 : k = 0
        · subst h0
          have hc0 : wr.cell? ad = some (.int .i64 x) := by rw [show ad = ad.add 0 by unfold Addr.add; split <;> simp_all]; exact hc
          have hnext := hide (hstep.2 ⟨unhide hs, by rw [List.take_zero, lastP_nil]; omega, by omega⟩)
          clear hx hu hs hbi hr' hd hstep hyes q0 q1 hlq
          go_wp2
          go_quiet ((go_at_call 63; exact Calls.quiet_of_same (unhide HI _)))
          go_wp2
          go_roundw
          case rel => exact ⟨1, by omega, by go_num, (unhide HD).more _, hnext⟩
          case measure => simp [intOf]; omega
        · obtain ⟨k2, rfl⟩ : ∃ k2, k = k2 + 1 := ⟨k - 1, by omega⟩
          obtain ⟨ad2, u2, hA2, _, hu2, hc2⟩ := (hr'.ofDrew hd).at_ (show k2 < m by omega)
          obtain rfl : ad = ad2 := by injection hA2
          obtain ⟨y, hy, rfl⟩ := i64_at hu2
          have hy1 : 1 ≤ y := ((unhide hs).1 y (by rw [take_snoc_i hy]; simp)).1
          have hlast := take_last hy
          have hgt : (0 : Int) < (k2 : Int) + 1 := by omega
          have hc3 : wr.cell? ⟨ad.block, ad.off + (k2 + 1), none⟩ = some (.int .i64 x) := by rw [← show ad.add (k2 + 1) = ⟨ad.block, ad.off + (k2 + 1), none⟩ by unfold Addr.add; rw [if_neg (by omega)]]; exact hc
          have hwk : IntKind.i64.wrap ((k2 : Int) + 1 - 1) = (k2 : Int) := by rw [IntKind.wrap_i64]; omega
          have hwk' : IntKind.i64.wrap (k2 : Int) = (k2 : Int) := by rw [IntKind.wrap_i64]; omega
          have hb2 : (k2 : Int) < (m : Int) := by omega
          have hb3 : (k2 : Int) + 1 < (m : Int) := by omega
          have hb4 : (0 : Int) ≤ (k2 : Int) := by omega
          by_cases hxy : x ≤ y
          · obtain rfl : b = false := (unhide HB).symm.trans (near_false (plok_no (k := k2 + 1 + 1) fun h2 => by
              have h3 := hstep.1 h2
              rw [hlast] at h3
              omega))
            clear hx hu hu2 hy hs hbi hr' hd HB hstep hyes q0 q1 hlq hlast h0
            go_wp2
            go_quiet ((go_at_call 63; exact Calls.quiet_of_same (unhide HI _)))
            go_wp2
            go_ret
            exact ⟨rfl, below_after b0 (((unhide HD).more _).below _)⟩
          · have hnext := hide (hstep.2 ⟨unhide hs, by rw [hlast]; omega, by omega⟩)
            clear hx hu hu2 hy hs hbi hr' hd hstep hyes q0 q1 hlq hlast h0
            go_wp2
            go_quiet ((go_at_call 63; exact Calls.quiet_of_same (unhide HI _)))
            go_wp2
            go_roundw
            case rel => exact ⟨k2 + 1 + 1, by omega, by go_num, (unhide HD).more _, hnext⟩
            case measure => simp [intOf]; omega
    · obtain rfl : m = k := by omega
      obtain rfl : bp = b := (near_true (unhide HBP) (by have h := unhide hs; rwa [List.take_of_length_le (by rw [(unhide HL).2]; exact Nat.le_refl _)] at h)).symm.trans (unhide HB)
      have H1 := hide (unhide HA wr hd)
      clear HB hs HA HBP
      go_wp2_with fail
      refine (unhide H1).mono ?_
      rintro e w2 ⟨rfl, d2⟩
      have d := below_after b0 ((hd.trans d2).below _)
      clear H1 d2 hd
      go_wp2
      go_ret
      exact ⟨rfl, d⟩
theorem near_take {p q J : List Int} {k : Nat} {z : List Int} (hz : (occR p q)[k]? = some z) : (((((occR p q).take (k + 1)).filter (fitJ J)).length : Nat) : Int) = ((((occR p q).take k).filter (fitJ J)).length : Int) + bitI (fitJ J z) := by
  rw [List.take_add_one, hz, Option.toList_some, List.filter_append, List.length_append]
  cases h : fitJ J z with
  | true => rw [List.filter_cons_of_pos h]; simp [bitI]
  | false => rw [List.filter_cons_of_neg (by simp [h])]; simp [bitI]
set_option maxHeartbeats 1600000 in
theorem scntn_any (A A' P : Option Addr) (n c B n' c' B' m d B2 : Nat) (p q J : List Int) (w : World) (h : Arg w B A n c p) (h' : Arg w B' A' n' c' q) (h2 : Arg w B2 P m d J) :
    Calls Try.prog 43 #[.slice A n c, .agg #[.slice A' n' c', .slice P m d]] w (GivesN w (numNear p q J)) := by
  obtain ⟨w0, hw0⟩ : ∃ w0, w0 = w.alloc (.cells #[.slice A' n' c', .slice P m d] 52) := ⟨_, rfl⟩
  have b0 : Below w.heap.size w w0 := by rw [hw0]; exact (Below.refl _ w).alloc (Nat.le_refl _) _
  have g0 : Whole w0 w.heap.size 52 #[.slice A' n' c', .slice P m d] := by rw [hw0]; exact Whole.new _ _ _
  obtain ⟨bp, hbp⟩ : ∃ b, isP p = b := ⟨_, rfl⟩
  have H1 := hide (show Calls Try.prog 32 #[.slice A n c] (w.alloc (.cells #[.slice A' n' c', .slice P m d] 52)) (fun e w' => e = .returned (.bool bp) ∧ Drew w0 w') from by
    rw [← hw0]; exact sisperm_any A n c B p bp hbp w0 (h.below b0).reads h.le h.cap)
  cases bp with
  | false =>
    rw [numNear_no (.inl hbp)]
    clear h h' h2 hbp hw0 g0
    go_enter Try.func43, Try.ntmps43
    go_wp2_with fail
    refine (unhide H1).mono ?_
    rintro e w1 ⟨rfl, hd⟩
    have hb1 := below_after b0 (hd.below _)
    clear H1 hd b0
    go_wp2
    go_ret
    exact ⟨rfl, hb1⟩
  | true =>
    obtain ⟨bn, hbn⟩ : ∃ b, nearOK q J = b := ⟨_, rfl⟩
    have H2 := hide (show ∀ w1, Drew w0 w1 → Calls Try.prog 78 #[.agg #[.slice A' n' c', .slice P m d]] w1 (GivesB w1 bn) from fun w1 hd => by
      rw [← hbn]; exact snear_any A' P n' c' B' m d B2 q J w1 (h'.below (below_after b0 (hd.below _))) (h2.below (below_after b0 (hd.below _))))
    cases bn with
    | false =>
      rw [numNear_no (.inr hbn)]
      clear h h' h2 hbp hw0 hbn
      go_enter Try.func43, Try.ntmps43
      go_wp2_with fail
      refine (unhide H1).mono ?_
      rintro e w1 ⟨rfl, hd⟩
      have g1 := g0.below (hd.below (w.heap.size + 1)) (by omega)
      have q0 := g1.cell 0
      have q1 := g1.cell 1
      have q2 := g1.lt
      simp only [List.getElem?_toArray, List.getElem?_cons_zero, List.getElem?_cons_succ] at q0 q1
      have H3 := hide (unhide H2 w1 hd)
      have hb1 := below_after b0 (hd.below _)
      clear H1 H2 hd b0 g0 g1
      go_wp2_with fail
      refine (unhide H3).mono ?_
      rintro e w2 ⟨rfl, d2⟩
      have hb2 := below_after hb1 d2
      clear H3 d2 hb1 q0 q1 q2
      go_wp2
      go_ret
      exact ⟨rfl, hb2⟩
    | true =>
      obtain ⟨hq, hJ⟩ := nearOK_iff.1 hbn
      rw [numNear_yes hbp hbn]
      unfold nearR
      have hl := h.len
      have hl' := h'.len
      have hn8 : n ≤ 8 := by have := isP_le hbp; omega
      have hn8' : n' ≤ 8 := by have := isP_le hq; omega
      have HO := hide (fun w2 (d2 : Below w.heap.size w w2) => soccs_any A A' n c B n' c' B' p q w2 (h.below d2) (h'.below d2))
      have HF := hide (show ∀ (w4 : World) (A4 : Option Addr) (c4 B4 : Nat) (z : List Int), z ∈ occR p q → Below w.heap.size w w4 → Ints w4 B4 (.slice A4 z.length c4) z → Calls Try.prog 79 #[.slice A4 z.length c4, .slice P m d] w4 (fun e w' => e = .returned (.bool (fitJ J z)) ∧ Drew w4 w') from fun w4 A4 c4 B4 z hz hb4 hI => by
        have ho := isOcc_iff.1 (mem_occ.1 hz)
        have hzl : z.length = n' := by omega
        exact l8fits_any A4 P z.length c4 _ m d B2 z J w4 (hI.arg (by omega) hI.cap (fun x hx => by have := ho.2.2.2.1.1 x hx; omega)) (h2.below hb4) (by rw [ho.2.2.1]; exact hJ) (fun x hx => by have := ho.2.2.2.1.1 x hx; omega) (by omega))
      have HR := hide (show (occR p q).length ≤ 1048576 from by have := (occ_room p q).1; omega)
      obtain ⟨L, hL⟩ : ∃ L, L = occR p q := ⟨_, rfl⟩
      have HT := hide (fun (k : Nat) (z : List Int) (hz : L[k]? = some z) => near_take (J := J) (hL ▸ hz))
      rw [← hL] at HO HF HR HT ⊢
      clear h h' h2 hbp hw0 hbn hq hJ hL hl hl'
      go_enter Try.func43, Try.ntmps43
      go_wp2_with fail
      refine (unhide H1).mono ?_
      rintro e w1 ⟨rfl, hd⟩
      have g1 := g0.below (hd.below (w.heap.size + 1)) (by omega)
      have q0 := g1.cell 0
      have q1 := g1.cell 1
      have q2 := g1.lt
      simp only [List.getElem?_toArray, List.getElem?_cons_zero, List.getElem?_cons_succ] at q0 q1
      have H3 := hide (unhide H2 w1 hd)
      have hb1 := below_after b0 (hd.below _)
      clear H1 H2 hd b0 g0
      go_wp2_with fail
      refine (unhide H3).mono ?_
      rintro e w2 ⟨rfl, d2⟩
      have g2 := g1.below d2 q2
      have hb2 := below_after hb1 d2
      clear H3 d2 hb1 q0 q1 q2 g1
      have q0 := g2.cell 0
      have q2 := g2.lt
      simp only [List.getElem?_toArray, List.getElem?_cons_zero] at q0
      have H4 := hide (unhide HO w2 hb2)
      clear HO
      go_wp2_with fail
      refine (unhide H4).mono ?_
      rintro e w3 ⟨A3, c3, rfl, o3, d3⟩
      have g3 := g2.below d3 q2
      have hb3 := below_after hb2 d3
      have q1 := g3.cell 1
      simp only [List.getElem?_toArray, List.getElem?_cons_zero, List.getElem?_cons_succ] at q1
      have hLn := unhide HR
      clear H4 d3 hb2 q0 q2 g2 g3
      go_wp2
      go_loopw [5, 7] (fun s i wr => ∃ k : Nat, k ≤ L.length ∧ i = .int .i64 k ∧ s = .int .i64 ((((L.take k).filter (fitJ J)).length : Nat) : Int) ∧ Drew w3 wr) (fun _ i _ => L.length - (intOf i).toNat)
      case atStart => exact ⟨0, Nat.zero_le _, rfl, rfl, Drew.refl _⟩
      case round =>
        obtain ⟨k, hk, rfl, rfl, hd⟩ := hrel
        by_cases hlt : k < L.length
        · have hb4 := below_after hb3 (hd.below _)
          obtain ⟨ad, A4, c4, z, rfl, hz, hcell, hI⟩ := (o3.below (hd.below _)).at_ hlt
          have hstep := unhide HT k z hz
          have q1' := (hd.cell ⟨w.heap.size, 1, none⟩).trans q1
          have HFZ := hide (show ∀ w', Drew wr w' → _ from fun w' d' => unhide HF w' A4 c4 _ z (List.mem_of_getElem? hz) (below_after hb4 (d'.below _)) (hI.below (d'.below _)))
          obtain ⟨bz, hbz⟩ : ∃ b, fitJ J z = b := ⟨_, rfl⟩
          rw [hbz] at HFZ hstep
          have hle : ((L.take k).filter (fitJ J)).length ≤ k := by
            have h1 := List.length_filter_le (fitJ J) (L.take k)
            rw [List.length_take] at h1; omega
          obtain ⟨s0, hs0⟩ : ∃ s0, s0 = ((L.take k).filter (fitJ J)).length := ⟨_, rfl⟩
          rw [← hs0] at hstep hle ⊢
          have hwr : IntKind.i64.wrap ((s0 : Int) + bitI bz) = (s0 : Int) + bitI bz := by rw [IntKind.wrap_i64]; cases bz <;> simp [bitI] <;> omega
          have HD := hide hd
          have HST := hide hstep
          clear hz hb4 hI hd hbz hstep hs0
          go_wp2
          go_quiet (first
            | (go_at_call 79; exact Calls.quiet_of (unhide HFZ _ ⟨_, rfl⟩))
            | (go_at_call 54; exact Calls.quiet_of_same (bit_any bz _)))
          go_wp2
          go_roundw
          case rel => exact ⟨k + 1, by omega, by go_num, by rw [unhide HST], (unhide HD).more _⟩
          case measure => simp [intOf]; omega
        · obtain rfl : L.length = k := by omega
          have hb4 := below_after hb3 (hd.below _)
          rw [List.take_length]
          clear hd hb3
          go_wp2
          go_ret
          exact ⟨rfl, hb4⟩
end Go.Proofs.Ytichenjbkclljaa


/-
  A STRUCT'S FIELD []int AS PART OF AN ARGUMENT: how it reads.
-/

namespace Go.Proofs.Ytichenjbkclljaa
set_option maxRecDepth 100000
open Go.RowKit Go.ChangeShapes Go.WideShapes Go.ChangeAt

/-- A field []int, as 'Reads'. -/
theorem open_ints_cell {H : Type} {enc : TypeId × Value → H} {P : Program} {w : World} {t e : TypeId} {v : Value} {y : DataW H × List MemPlace} {k : Nat} (ht : P.underlying t = some (.slice e)) (he : P.underlying e = some (.int .i64)) (hc : P.cellsOf e = 1)
    (hf : DataW.trod enc P w 0 (fun _ => true) true k t [v] = some y) (hlt : ∀ x ∈ y.2, x.block < w.heap.size) :
    ∃ (A : Option Addr) (n c : Nat) (zs : List Int), v = .slice A n c ∧ Reads w w.heap.size A n (i64s zs) ∧ n ≤ maxLen ∧ Small zs := by
  rcases open_ints ht he hc hf with ⟨hcs, hx⟩ | ⟨a, len', cap', zs, hcs, _, hl, hm, hz, hx, hcell, hws⟩
  · injection hcs with hcs
    subst hcs
    exact ⟨none, 0, 0, [], rfl, Reads.none_, Nat.zero_le _, fun z hz => by simp at hz⟩
  · injection hcs with hcs
    subst hcs
    subst hx
    simp only [if_true] at hz
    refine ⟨some a, len', cap', zs.take len', rfl, ⟨by rw [i64_length, List.length_take]; omega, fun hn => ⟨a, rfl, lt_of_row (j := 0) hlt (by omega), fun j u hu => ?_⟩⟩, by omega, small_of_wf fun z hz => hws z (List.mem_of_mem_take hz)⟩
    unfold i64s at hu
    rw [List.getElem?_map, List.getElem?_take] at hu
    by_cases hj : j < len'
    · rw [if_pos hj] at hu
      rw [hcell j (by omega), ← hu, List.getD_eq_getElem?_getD]
      have : zs[j]? = some zs[j] := List.getElem?_eq_getElem (by omega)
      rw [this]; rfl
    · rw [if_neg hj] at hu; cases hu
end Go.Proofs.Ytichenjbkclljaa


/-
  impl.joints (a bit for each joined number): jointsOf, has, fit; impl.IsNear, by their contracts.
-/

namespace Go.Proofs.Ytichenjbkclljaa
set_option maxRecDepth 100000
open Go.RowKit

/-- A bit for each number. -/
def jB (J : List Int) : Nat := J.foldl (fun a j => a ||| 2 ^ j.toNat) 0
theorem jB_nil : jB [] = 0 := rfl
theorem jB_snoc (J : List Int) (x : Int) : jB (J ++ [x]) = jB J ||| 2 ^ x.toNat := by unfold jB; rw [List.foldl_append]; rfl
theorem jB_step {J : List Int} {k : Nat} {x : Int} (hx : J[k]? = some x) : jB (J.take (k + 1)) = jB (J.take k) ||| 2 ^ x.toNat := by rw [take_snoc_i hx, jB_snoc]
theorem jB_lt_aux : ∀ (J : List Int) (a : Nat), a < 512 → (∀ x ∈ J, 0 ≤ x ∧ x ≤ 8) → J.foldl (fun a j => a ||| 2 ^ j.toNat) a < 512
  | [], a, ha, _ => ha
  | x :: J, a, ha, h => by
    rw [List.foldl_cons]
    refine jB_lt_aux J _ ?_ fun y hy => h y (List.mem_cons_of_mem _ hy)
    have hx := h x (List.mem_cons_self ..)
    have h2 : 2 ^ x.toNat < 2 ^ 9 := Nat.pow_lt_pow_right (by decide) (by omega)
    exact Nat.or_lt_two_pow (n := 9) ha h2
theorem jB_lt {J : List Int} (h : ∀ x ∈ J, 0 ≤ x ∧ x ≤ 8) : jB J < 512 := jB_lt_aux J 0 (by decide) h
theorem jB_test_aux (i : Nat) : ∀ (J : List Int) (a : Nat), (∀ x ∈ J, 0 ≤ x) → (J.foldl (fun a j => a ||| 2 ^ j.toNat) a).testBit i = (a.testBit i || decide ((i : Int) ∈ J))
  | [], a, _ => by simp
  | x :: J, a, h => by
    have hx := h x (List.mem_cons_self ..)
    rw [List.foldl_cons, jB_test_aux i J _ fun y hy => h y (List.mem_cons_of_mem _ hy), Nat.testBit_or, Nat.testBit_two_pow, Bool.or_assoc]
    congr 1
    by_cases e : x.toNat = i
    · have e2 : (i : Int) = x := by omega
      simp [e, e2]
    · have e2 : ¬ (i : Int) = x := by omega
      simp [e, e2]
theorem jB_test {J : List Int} (h : ∀ x ∈ J, 0 ≤ x) (i : Nat) : (jB J).testBit i = decide ((i : Int) ∈ J) := by
  unfold jB; rw [jB_test_aux i J 0 h]; simp
theorem bit_testU (s k : Nat) (hs : s < 512) : (bits .and .u64 ((s : Int) / 2 ^ k) 1 == 1) = s.testBit k := by
  have h0 : (s : Int) / 2 ^ k = ((s / 2 ^ k : Nat) : Int) := by push_cast; rfl
  have hle : s / 2 ^ k ≤ s := Nat.div_le_self _ _
  have h1 : bits .and .u64 ((s / 2 ^ k : Nat) : Int) 1 = ((s / 2 ^ k % 2 : Nat) : Int) := by
    have := bits_mask .u64 63 (by decide) (fun n h0 h1 => by rw [IntKind.wrap_u64]; omega) 1 (by decide) ((s / 2 ^ k : Nat) : Int) (Int.natCast_nonneg _) (Int.lt_of_le_of_lt (Int.ofNat_le.2 hle) (by omega))
    simpa using this
  rw [h0, h1, Nat.testBit_eq_decide_div_mod_eq]
  by_cases h : s / 2 ^ k % 2 = 1
  · rw [h]; rfl
  · have h2 : s / 2 ^ k % 2 = 0 := by omega
    rw [h2]; rfl
set_option maxHeartbeats 800000 in
theorem jots_any (A : Option Addr) (n c B : Nat) (J : List Int) (w : World) (h : Arg w B A n c J) (hJ : ∀ x ∈ J, 0 ≤ x ∧ x ≤ 8) :
    Calls Try.prog 81 #[.slice A n c] w fun e w' => e = .returned (.int .u64 (jB J : Nat)) ∧ Drew w w' := by
  have hl := h.len
  have hr := h.reads
  have hm := h.le
  have HJ := hide (fun k x (hx : J[k]? = some x) => hJ x (List.mem_of_getElem? hx))
  have HT := hide (fun k => jB_lt (J := J.take k) fun x hx => hJ x (List.mem_of_mem_take hx))
  have HL := hide hl
  clear h hl hJ
  go_enter Try.func81, Try.ntmps81
  go_wp2
  go_loopw [3, 8] (fun b i wr => ∃ k : Nat, k ≤ n ∧ i = .int .i64 k ∧ b = .int .u64 (jB (J.take k) : Nat) ∧ Drew w wr) (fun _ i _ => n - (intOf i).toNat)
  case atStart => exact ⟨0, Nat.zero_le _, rfl, rfl, Drew.refl _⟩
  case round =>
    obtain ⟨k, hk, rfl, rfl, hd⟩ := hrel
    by_cases hlt : k < n
    · obtain ⟨ad, u, rfl, _, hu, hc⟩ := (hr.ofDrew hd).at_ hlt
      obtain ⟨x, hx, rfl⟩ := i64_at hu
      obtain ⟨hx0, hx8⟩ := unhide HJ k x hx
      have hlt1 := unhide HT k
      have hstep := jB_step hx
      obtain ⟨j, rfl⟩ : ∃ j : Nat, x = (j : Int) := ⟨x.toNat, by omega⟩
      rw [Int.toNat_natCast] at hstep
      have hp : 2 ^ j < 2 ^ 9 := Nat.pow_lt_pow_right (by decide) (by omega)
      have hor := bits_or_u64_nat (jB (J.take k)) (2 ^ j) (by omega) (by omega)
      rw [← hstep] at hor
      clear hu hx hstep
      have HD := hide hd
      have HO := hide hor
      have hw2 : IntKind.u64.wrap (2 ^ j) = ((2 ^ j : Nat) : Int) := by
        have e : ((2 : Int) ^ j) = ((2 ^ j : Nat) : Int) := by push_cast; rfl
        rw [e, IntKind.wrap_u64]
        generalize 2 ^ j = P at hp
        omega
      have HW := hide hw2
      clear hd hor hw2
      go_wp2
      go_roundw
      case rel => exact ⟨k + 1, by omega, by go_num, by rw [unhide HW, unhide HO], unhide HD⟩
      case measure => simp [intOf]; omega
    · obtain rfl : n = k := by omega
      rw [List.take_of_length_le (Nat.le_of_eq (unhide HL))]
      go_wp2
      go_ret
      exact ⟨rfl, hd⟩
theorem jhas_any (s i : Nat) (hs : s < 512) (hi : i ≤ 62) (w : World) :
    Calls Try.prog 102 #[.int .u64 (s : Nat), .int .i64 i] w fun e w' => e = .returned (.bool (s.testBit i)) ∧ w' = w := by
  have H := hide (bit_testU s i hs)
  go_enter Try.func102, Try.ntmps102
  go_wp2
  go_ret
  exact ⟨ret_bool (unhide H), rfl⟩
theorem jhas_in {J : List Int} (hJ : ∀ x ∈ J, 0 ≤ x ∧ x ≤ 8) (i : Int) (hi : 0 ≤ i ∧ i ≤ 62) (b : Bool) (hb : decide (i ∈ J) = b) (w : World) :
    Calls Try.prog 102 #[.int .u64 (jB J : Nat), .int .i64 i] w fun e w' => e = .returned (.bool b) ∧ w' = w := by
  obtain ⟨k, rfl⟩ : ∃ k : Nat, i = (k : Int) := ⟨i.toNat, by omega⟩
  rw [← hb, ← jB_test (fun x hx => (hJ x hx).1)]
  exact jhas_any (jB J) k (jB_lt hJ) (by omega) w
set_option maxHeartbeats 800000 in
theorem jfit_any (A : Option Addr) (n c B : Nat) (pl J : List Int) (w : World) (h : Arg w B A n c pl) (hJ : PlOK (n - 1) J) (hpl : ∀ x ∈ pl, 1 ≤ x ∧ x ≤ 8) (hn : n ≤ 8) :
    Calls Try.prog 82 #[.int .u64 (jB J : Nat), .slice A n c] w fun e w' => e = .returned (.bool (fitJ J pl)) ∧ Drew w w' := by
  have hl := h.len
  have hr := h.reads
  obtain ⟨b, hb⟩ : ∃ b, fitJ J pl = b := ⟨_, rfl⟩
  rw [hb]
  have HB := hide hb
  have hJ8 : ∀ x ∈ J, 0 ≤ x ∧ x ≤ 8 := fun x hx => by have := hJ.1 x hx; omega
  have HJ := hide hJ
  have HH := hide (fun (i : Int) (hi : 0 ≤ i ∧ i ≤ 62) b hb (w' : World) => jhas_in hJ8 i hi b hb w')
  have HPL := hide (fun k x (hx : pl[k]? = some x) => hpl x (List.mem_of_getElem? hx))
  have HL := hide hl
  clear h hJ hJ8 hpl hl hb
  go_enter Try.func82, Try.ntmps82
  go_wp2
  go_loopw [5] (fun i wr => ∃ k : Nat, (k ≤ n ∨ k = 1) ∧ 1 ≤ k ∧ i = .int .i64 k ∧ Drew w wr ∧ Hid (∀ j ∈ J, j < (k : Int) → at0 pl j.toNat = at0 pl (j.toNat - 1) + 1)) (fun i _ => n - (intOf i).toNat)
  case atStart => exact ⟨1, .inr rfl, Nat.le_refl _, rfl, Drew.refl _, hide fun j hj hlt => by have := (unhide HJ).1 j hj; omega⟩
  case round =>
    obtain ⟨k, hk, hk1, rfl, hd, hs⟩ := hrel
    by_cases hlt : k < n
    · obtain ⟨k2, rfl⟩ : ∃ k2, k = k2 + 1 := ⟨k - 1, by omega⟩
      obtain ⟨ad1, u1, rfl, _, hu1, hc1⟩ := (hr.ofDrew hd).at_ hlt
      obtain ⟨ad2, u2, hA2, _, hu2, hc2⟩ := (hr.ofDrew hd).at_ (show k2 < n by omega)
      obtain rfl : ad1 = ad2 := by injection hA2
      obtain ⟨y, hy, rfl⟩ := i64_at hu1
      obtain ⟨z, hz, rfl⟩ := i64_at hu2
      have hzr := unhide HPL _ z hz
      have ey : at0 pl (k2 + 1) = y := at0_of hy
      have ez : at0 pl k2 = z := at0_of hz
      have hw2 : IntKind.i64.wrap (z + 1) = z + 1 := by rw [IntKind.wrap_i64]; omega
      have hc3 : wr.cell? ⟨ad1.block, ad1.off + (k2 + 1), none⟩ = some (.int .i64 y) := by rw [← show ad1.add (k2 + 1) = ⟨ad1.block, ad1.off + (k2 + 1), none⟩ by unfold Addr.add; rw [if_neg (by omega)]]; exact hc1
      have hwk : IntKind.i64.wrap ((k2 : Int) + 1 - 1) = (k2 : Int) := by rw [IntKind.wrap_i64]; omega
      have hwk' : IntKind.i64.wrap (k2 : Int) = (k2 : Int) := by rw [IntKind.wrap_i64]; omega
      have hb2 : (k2 : Int) < (n : Int) := by omega
      have hb3 : (k2 : Int) + 1 < (n : Int) := by omega
      have hb4 : (0 : Int) ≤ (k2 : Int) := by omega
      have HD := hide hd
      obtain ⟨bh, hbh⟩ : ∃ bh, decide ((k2 : Int) + 1 ∈ J) = bh := ⟨_, rfl⟩
      have HC := hide (fun w' => unhide HH ((k2 : Int) + 1) (by omega) bh hbh w')
      cases bh with
      | false =>
        have hnot : ¬ (k2 : Int) + 1 ∈ J := of_decide_eq_false hbh
        have hnext := hide (show ∀ j ∈ J, j < ((k2 + 1 + 1 : Nat) : Int) → at0 pl j.toNat = at0 pl (j.toNat - 1) + 1 from fun j hj hlt => by
          by_cases e : j = (k2 : Int) + 1
          · exact absurd (e ▸ hj) hnot
          · exact unhide hs j hj (by omega))
        clear hnot hbh hs ey ez hu1 hu2 hy hz hr hd HH hzr
        go_wp2
        go_quiet ((go_at_call 102; exact Calls.quiet_of_same (unhide HC _)))
        go_wp2
        go_roundw
        case rel => exact ⟨k2 + 1 + 1, .inl (by omega), by omega, by go_num, (unhide HD).more _, hnext⟩
        case measure => simp [intOf]; omega
      | true =>
        have hin : (k2 : Int) + 1 ∈ J := of_decide_eq_true hbh
        by_cases hyz : y = z + 1
        · have hnext := hide (show ∀ j ∈ J, j < ((k2 + 1 + 1 : Nat) : Int) → at0 pl j.toNat = at0 pl (j.toNat - 1) + 1 from fun j hj hlt => by
            by_cases e : j = (k2 : Int) + 1
            · subst e; rw [show ((k2 : Int) + 1).toNat = k2 + 1 by omega, Nat.add_sub_cancel, ey, ez]; exact hyz
            · exact unhide hs j hj (by omega))
          subst hyz
          clear hin hbh hs ey ez hu1 hu2 hy hz hr hd HH hzr
          go_wp2
          go_quiet ((go_at_call 102; exact Calls.quiet_of_same (unhide HC _)))
          go_wp2
          go_roundw
          case rel => exact ⟨k2 + 1 + 1, .inl (by omega), by omega, by go_num, (unhide HD).more _, hnext⟩
          case measure => simp [intOf]; omega
        · obtain rfl : b = false := (unhide HB).symm.trans (by
            cases hf : fitJ J pl with
            | false => rfl
            | true => exact absurd (by have := fitJ_iff.1 hf _ hin; rwa [show ((k2 : Int) + 1).toNat = k2 + 1 by omega, Nat.add_sub_cancel, ey, ez] at this) hyz)
          have hne : (y == z + 1) = false := by simpa using hyz
          clear hin hbh hs ey ez hu1 hu2 hy hz hr hd HH hzr HB hyz
          go_wp2
          go_quiet ((go_at_call 102; exact Calls.quiet_of_same (unhide HC _)))
          go_wp2
          go_ret
          exact ⟨rfl, (unhide HD).more _⟩
    · obtain rfl : b = true := (unhide HB).symm.trans (fitJ_iff.2 fun j hj => unhide hs j hj (by have := (unhide HJ).1 j hj; omega))
      clear HB hs HH
      go_wp2
      go_ret
      exact ⟨rfl, hd⟩
set_option maxHeartbeats 1600000 in
theorem inear_any (A P : Option Addr) (n c B m d B' : Nat) (q J : List Int) (w : World) (h : Arg w B A n c q) (h' : Arg w B' P m d J) :
    Calls Try.prog 80 #[.agg #[.slice A n c, .slice P m d]] w (GivesB w (nearOK q J)) := by
  have hl := h.len
  have hl' := h'.len
  have hm := h'.le
  have hn := h.le
  obtain ⟨w0, hw0⟩ : ∃ w0, w0 = w.alloc (.cells #[.slice A n c, .slice P m d] 52) := ⟨_, rfl⟩
  have b0 : Below w.heap.size w w0 := by rw [hw0]; exact (Below.refl _ w).alloc (Nat.le_refl _) _
  have g0 : Whole w0 w.heap.size 52 #[.slice A n c, .slice P m d] := by rw [hw0]; exact Whole.new _ _ _
  have hr' := (h'.below b0).reads
  obtain ⟨bp, hbp⟩ : ∃ b, isP q = b := ⟨_, rfl⟩
  have q0 := g0.cell 0
  simp only [List.getElem?_toArray, List.getElem?_cons_zero] at q0
  have H1 := hide (iisperm_any A n c B q bp hbp w0 (h.below b0).reads (h.below b0).under h.le h.small)
  cases bp with
  | false =>
    rw [show nearOK q J = false from by unfold nearOK; rw [hbp]; rfl]
    have HW := hide hw0
    clear h h' hl hl' hbp g0 hr'
    rw [hw0] at q0
    clear hw0
    go_enter Try.func80, Try.ntmps80
    go_wp2_with fail
    rw [← unhide HW]
    refine (unhide H1).mono ?_
    rintro e w1 ⟨rfl, d1⟩
    have d2 := below_after b0 d1
    clear H1 HW d1 b0
    go_wp2
    go_ret
    exact ⟨rfl, d2⟩
  | true =>
    obtain ⟨b, hb⟩ : ∃ b, nearOK q J = b := ⟨_, rfl⟩
    rw [hb]
    have HB := hide hb
    have HBP := hide hbp
    have HL := hide (⟨hl, hl'⟩ : q.length = n ∧ J.length = m)
    have HJS := hide (fun k x (hx : J[k]? = some x) => h'.small x (List.mem_of_getElem? hx))
    have HW := hide hw0
    have HU := hide (⟨h'.under, b0.size⟩ : B' ≤ w.heap.size ∧ w.heap.size ≤ w0.heap.size)
    have G0 := hide g0
    clear h h' hl hl' hbp g0 hb
    rw [hw0] at q0
    clear hw0
    go_enter Try.func80, Try.ntmps80
    go_wp2_with fail
    rw [← unhide HW]
    refine (unhide H1).mono ?_
    rintro e w1 ⟨rfl, d1⟩
    have d2 := below_after b0 d1
    have g1 := (unhide G0).below d1 (by have := (unhide G0).lt; omega)
    have c0' := g1.cell 0
    have c1' := g1.cell 1
    simp only [List.getElem?_toArray, List.getElem?_cons_zero, List.getElem?_cons_succ] at c0' c1'
    have hr1 := hr'.below (d1.mono (by have := unhide HU; omega))
    clear H1 HW d1 b0 q0 hr' G0 g1
    go_wp2
    go_loopw [3, 13] (fun l i wr => ∃ k : Nat, k ≤ m ∧ i = .int .i64 k ∧ l = .int .i64 (lastP (J.take k) : Nat) ∧ Drew w1 wr ∧ Hid (PlOK (q.length - 1) (J.take k))) (fun _ i _ => m - (intOf i).toNat)
    case atStart => exact ⟨0, Nat.zero_le _, rfl, by rw [List.take_zero, lastP_nil]; rfl, Drew.refl _, hide (PlOK.nil _)⟩
    case round =>
      obtain ⟨k, hk, rfl, rfl, hd, hs⟩ := hrel
      have c0 := (hd.cell ⟨w.heap.size, 0, none⟩).trans c0'
      have c1 := (hd.cell ⟨w.heap.size, 1, none⟩).trans c1'
      by_cases hlt : k < m
      · obtain ⟨ad, u, rfl, _, hu, hc⟩ := (hr1.ofDrew hd).at_ hlt
        obtain ⟨x, hx, rfl⟩ := i64_at hu
        have HD := hide hd
        have hstep := plok_step (n := q.length - 1) hx
        have hlq := (unhide HL).1
        have hlast := take_last hx
        obtain ⟨l, hl⟩ : ∃ l, lastP (J.take k) = l := ⟨_, rfl⟩
        rw [hl] at hstep ⊢
        by_cases hno : x ≤ (l : Int)
        · obtain rfl : b = false := (unhide HB).symm.trans (near_false (plok_no (k := k + 1) fun h2 => by
            have h3 := (hstep.1 h2).2.1
            omega))
          clear hx hu hs hr1 hd HB hstep c0' c1' hlq hlast hl
          go_wp2
          go_ret
          exact ⟨rfl, d2.trans ((unhide HD).below _)⟩
        · by_cases hge : (n : Int) ≤ x
          · obtain rfl : b = false := (unhide HB).symm.trans (near_false (plok_no (k := k + 1) fun h2 => by
              have h3 := (hstep.1 h2).2.2
              omega))
            clear hx hu hs hr1 hd HB hstep c0' c1' hlq hlast hl
            go_wp2
            go_ret
            exact ⟨rfl, d2.trans ((unhide HD).below _)⟩
          · have hnext := hide (hstep.2 ⟨unhide hs, by omega, by omega⟩)
            have hx' : x = ((x.toNat : Nat) : Int) := by omega
            have HX := hide (show Value.int .i64 x = .int .i64 (lastP (J.take (k + 1)) : Nat) by rw [hlast, ← hx'])
            clear hx hu hs hr1 hd hstep c0' c1' hlq hlast hl hx'
            go_wp2
            go_roundw
            case rel => exact ⟨k + 1, by omega, by go_num, unhide HX, unhide HD, hnext⟩
            case measure => simp [intOf]; omega
      · obtain rfl : m = k := by omega
        obtain rfl : true = b := (near_true (unhide HBP) (by have h := unhide hs; rwa [List.take_of_length_le (by rw [(unhide HL).2]; exact Nat.le_refl _)] at h)).symm.trans (unhide HB)
        clear HB hs hr1
        go_wp2
        go_ret
        exact ⟨rfl, d2.trans (hd.below _)⟩
end Go.Proofs.Ytichenjbkclljaa


/-
  impl.CountNear: a loop over the occurrences that counts those whose joined places are side by side.
-/

namespace Go.Proofs.Ytichenjbkclljaa
set_option maxRecDepth 100000
open Go.RowKit Go.Shelf
attribute [local go_sem] Oper.semAt_some

theorem chR_room_all8 : ∀ n, n < 9 → ∀ k, k < 9 → (chR n k).length ≤ 256 := by decide +kernel
theorem chR_room8 {n k : Nat} (hn : n ≤ 8) (hk : k ≤ 8) : (chR n k).length ≤ 256 := chR_room_all8 n (by omega) k (by omega)
/-- How many of these fit. -/
def fitN (J : List Int) (xs : List (Value × List Int)) : Nat := (xs.filter fun x => fitJ J x.2).length
theorem fitN_snoc_yes {J : List Int} {xs : List (Value × List Int)} {x : Value × List Int} (h : fitJ J x.2 = true) : fitN J (xs ++ [x]) = fitN J xs + 1 := by unfold fitN; simp [h]
theorem fitN_snoc_no {J : List Int} {xs : List (Value × List Int)} {x : Value × List Int} (h : fitJ J x.2 = false) : fitN J (xs ++ [x]) = fitN J xs := by unfold fitN; simp [h]
theorem fitN_le (J : List Int) (xs : List (Value × List Int)) : fitN J xs ≤ xs.length := List.length_filter_le _ _
theorem fitN_all {J p q : List Int} {xs : List (Value × List Int)} (h : xs.map (·.2) = occR p q) : fitN J xs = (nearR p q J).length := by
  unfold fitN nearR
  rw [← h, List.filter_map, List.length_map]
  rfl
theorem occ_small {p q pl : List Int} (h : pl ∈ occR p q) : pl.length = q.length ∧ ∀ x ∈ pl, 1 ≤ x ∧ x ≤ 8 := by
  obtain ⟨hp, _, h1, h2, _⟩ := isOcc_iff.1 (mem_occ.1 h)
  have := isP_le hp
  exact ⟨h1, fun x hx => by have := h2.1 x hx; omega⟩
set_option maxRecDepth 100000 in
set_option maxHeartbeats 4000000 in
theorem cntn_yes (A A' P : Option Addr) (n c B n' c' B' m d B2 : Nat) (p q J : List Int) (w : World) (h : Arg w B A n c p) (h' : Arg w B' A' n' c' q) (h2 : Arg w B2 P m d J) (hp : isP p = true) (hok : nearOK q J = true) :
    Calls Try.prog 45 #[.slice A n c, .agg #[.slice A' n' c', .slice P m d]] w (GivesN w ((nearR p q J).length : Nat)) := by
  obtain ⟨hq, hJ⟩ := nearOK_iff.1 hok
  have hl' := h'.len
  have hn8 : n ≤ 8 := by have := isP_le hp; have := h.len; omega
  have hn8' : n' ≤ 8 := by have := isP_le hq; omega
  have hBu := h.under
  have hBu' := h'.under
  have hJ8 : ∀ x ∈ J, 0 ≤ x ∧ x ≤ 8 := fun x hx => by have := hJ.1 x hx; omega
  obtain ⟨w0, hw0⟩ : ∃ w0, w0 = w.alloc (.cells #[.slice A' n' c', .slice P m d] 52) := ⟨_, rfl⟩
  have b0 : Below w.heap.size w w0 := by rw [hw0]; exact (Below.refl _ w).alloc (Nat.le_refl _) _
  have g0 : Whole w0 w.heap.size 52 #[.slice A' n' c', .slice P m d] := by rw [hw0]; exact Whole.new _ _ _
  have H1 := hide (iisperm_any A n c B p true hp w0 (h.below b0).reads (h.below b0).under h.le h.small)
  have H2 := hide (show ∀ w1, Below w.heap.size w w1 → _ from fun w1 d1 => inear_any A' P n' c' B' m d B2 q J w1 (h'.below d1) (h2.below d1))
  have H3 := hide (show ∀ w2, Below w.heap.size w w2 → _ from fun w2 d2 => jots_any P m d B2 J w2 (h2.below d2) hJ8)
  have H4 := hide (fun w2 => iocs_made A A' n c n' c' w2)
  rw [hok] at H2
  have HT := hide (show ∀ w5, Below w.heap.size w w5 → ∀ bc, bc + 1 = w5.heap.size → w.heap.size < bc → TellsZ Fence.wide 3 Try.prog 87 #[.pointer (some ⟨w5.heap.size, 0, none⟩), .pointer (some ⟨w5.heap.size + 1, 0, none⟩)] 6 (fun x : Value × List Int => #[x.1]) (KnO p q)
      (Keep (fun k => k < bc + 11 ∧ k ≠ bc ∧ k ≠ bc + 3 ∧ k ≠ bc + 4)) (fun xs => xs.map (·.2) = occR p q) (AllIn p q) 256 ((w5.alloc (.cells #[.slice A n c] 24)).alloc (.cells #[.slice A' n' c'] 24)) from fun w2 d2 bc hbc hlt => by
    have d3 : Below w2.heap.size w2 ((w2.alloc (.cells #[.slice A n c] 24)).alloc (.cells #[.slice A' n' c'] 24)) := ((Below.refl _ w2).alloc (Nat.le_refl _) _).alloc (by simp) _
    have b2 := Boxed.new (w2.alloc (.cells #[.slice A n c] 24)) 24 (.slice A' n' c')
    rw [World.size_alloc] at b2
    exact occ_tell A A' n c B n' c' B' p q hp hq _ w2.heap.size (w2.heap.size + 1) 256 _ (h.below (below_after d2 d3)) (h'.below (below_after d2 d3)) (Boxed.alloc (Boxed.new w2 _ _) _) b2
      ⟨fun k hk => by omega, fun k hk => by omega, by omega, by omega, fun k h1 h2 => by simp at h1 h2; omega⟩ 3 (chR_room8 hn8 hn8'))
  have HF := hide (show ∀ (V : World) (u : Value) (zs : List Int) (B9 : Nat), Ints V B9 u zs → zs ∈ occR p q → ∃ A9 c9, u = .slice A9 n' c9 ∧ Calls Try.prog 82 #[.int .u64 (jB J : Nat), .slice A9 n' c9] V fun e w' => e = .returned (.bool (fitJ J zs)) ∧ Drew V w' from fun V u zs B9 hI hin => by
    obtain ⟨A9, c9, rfl⟩ := hI.slice
    obtain ⟨e1, e2⟩ := occ_small hin
    have e3 : zs.length = n' := e1.trans hl'
    have ha := hI.arg (by omega) hI.cap fun z hz => by have := e2 z hz; omega
    rw [e3] at ha
    exact ⟨A9, c9, by rw [e3], jfit_any A9 n' c9 _ zs J V ha (by rw [← hl']; exact hJ) e2 hn8'⟩)
  refine (callsIn_wide (n := 4)).1 ?_
  refine callsIn_of_wp_marks Try.func45 rfl trivial ?_ rfl
  simp only [Try.ntmps45, List.size_toArray, List.length_cons, List.length_nil, Nat.reduceAdd, Nat.reduceSub, Array.replicate_succ, Array.replicate_zero, List.push_toArray, List.append_toArray, List.nil_append, List.cons_append]
  have HW0 := hide hw0
  clear h h' h2 hp hq hok hJ hJ8 hBu hBu' hl' hw0
  gi_wp2_with fail
  rw [← unhide HW0]
  refine ⟨trivial, ?_⟩
  refine (callsIn_wide.2 (unhide H1)).mono ?_
  rintro e w1 ⟨rfl, d1⟩
  have d1' := below_after b0 d1
  have g1 := g0.below d1 g0.lt
  have x0 := g1.cell 0
  have x1 := g1.cell 1
  simp only [List.getElem?_toArray, List.getElem?_cons_zero, List.getElem?_cons_succ] at x0 x1
  have HX := hide (unhide H2 w1 d1')
  clear H1 H2 g0 b0 d1 HW0
  gi_wp2_with fail
  refine ⟨trivial, ?_⟩
  refine (callsIn_wide.2 (unhide HX)).mono ?_
  rintro e w2 ⟨rfl, d2⟩
  have d2' := below_after d1' d2
  have g2 := g1.below d2 g1.lt
  have y0 := g2.cell 0
  have y1 := g2.cell 1
  simp only [List.getElem?_toArray, List.getElem?_cons_zero, List.getElem?_cons_succ] at y0 y1
  have HY := hide (unhide H3 w2 d2')
  clear HX H3 d1' d2 g1 x0 x1
  gi_wp2_with fail
  refine ⟨trivial, ?_⟩
  refine (callsIn_wide.2 (unhide HY)).mono ?_
  rintro e w3 ⟨rfl, d3⟩
  have d3' := d2'.trans (d3.below _)
  have g3 : Whole w3 w.heap.size 52 #[.slice A' n' c', .slice P m d] := g2.below (d3.below (w.heap.size + 1)) (Nat.lt_succ_self _)
  obtain ⟨bj, hbj⟩ : ∃ b, b = w3.heap.size := ⟨_, rfl⟩
  have hbjw : w.heap.size < bj := by have := g3.lt; omega
  obtain ⟨s, hs⟩ : ∃ s, s = jB J := ⟨_, rfl⟩
  obtain ⟨w5, hw5⟩ : ∃ w5, w5 = (w3.alloc (.cells #[.int .u64 (s : Nat)] 78)).alloc (.cells #[.int .i64 0] 3) := ⟨_, rfl⟩
  have hs5 : w5.heap.size = bj + 2 := by rw [hw5]; simp [hbj]
  have b35 : Below w3.heap.size w3 w5 := by rw [hw5]; exact ((Below.refl _ w3).alloc (Nat.le_refl _) _).alloc (by simp) _
  have d5 := below_after d3' b35
  have g5 := g3.below b35 g3.lt
  have cj5 : Boxed w5 bj 78 (.int .u64 (s : Nat)) := by rw [hw5, hbj]; exact Boxed.alloc (Boxed.new w3 _ _) _
  have cc5 : Boxed w5 (bj + 1) 3 (.int .i64 0) := by
    have := Boxed.new (w3.alloc (.cells #[.int .u64 (s : Nat)] 78)) 3 (.int .i64 0)
    rw [World.size_alloc, ← hbj] at this
    rw [hw5]; exact this
  have z0 := g5.cell 0
  simp only [List.getElem?_toArray, List.getElem?_cons_zero] at z0
  rw [hw5] at z0
  have HS := hide hs
  have HW5 := hide hw5
  have HG5 := hide (⟨d5, cj5, cc5, hs5⟩ : Below w.heap.size w w5 ∧ Boxed w5 bj 78 (.int .u64 (s : Nat)) ∧ Boxed w5 (bj + 1) 3 (.int .i64 0) ∧ w5.heap.size = bj + 2)
  have HBJ := hide hbj
  rw [← hs]
  clear HY d2' g2 y0 y1 d3 d3' g3 b35 d5 g5 cj5 cc5 hs5 hw5 hs hbj
  gi_wp2_with fail
  refine ⟨trivial, ?_⟩
  refine (callsIn_wide.2 (unhide H4 _)).mono ?_
  rintro e w6 ⟨rfl, hw6⟩
  rw [← unhide HW5] at hw6
  obtain ⟨d5, cj5, cc5, hs5⟩ := unhide HG5
  have hseq := unhide HT w5 d5 (bj + 1) (by omega) (by omega)
  rw [← unhide HW5, ← unhide HBJ, hs5]
  rw [← hw6, hs5] at hseq
  have hs6 : w6.heap.size = bj + 4 := by rw [hw6]; simp [hs5]
  have cj6 : Boxed w6 bj 78 (.int .u64 (s : Nat)) := by rw [hw6]; exact Boxed.alloc (Boxed.alloc cj5 _) _
  have cc6 : Boxed w6 (bj + 1) 3 (.int .i64 0) := by rw [hw6]; exact Boxed.alloc (Boxed.alloc cc5 _) _
  have d6 : Below w.heap.size w w6 := below_after d5 (by rw [hw6]; exact ((Below.refl _ w5).alloc (Nat.le_refl _) _).alloc (by simp) _)
  rw [unhide HS] at cj6
  rw [unhide HS]
  clear H4 HT HW5 HBJ HG5 hw6 d5 cj5 cc5 hs5 z0 HS
  gi_wp2
  refine range_zone rfl (by decide) (gf := 87) (lb := #[.pointer (some ⟨bj + 2, 0, none⟩), .pointer (some ⟨bj + 2 + 1, 0, none⟩)]) rfl trivial (enters_of Try.func87 (by kernel_rfl) rfl)
    hseq (fun h k => h.trans k) (fun W r r' hd => Keep.putObj W (by omega) _) (fun _ => rfl) (fun U V x r r' hdU hdV h => ⟨kn_row _ U V x r r' hdU hdV h.1, h.2⟩)
    (fun pre V => Boxed V bj 78 (.int .u64 (jB J : Nat)) ∧ Boxed V (bj + 1) 3 (.int .i64 (fitN J pre : Nat)) ∧ Below w.heap.size w V ∧ bj + 4 ≤ V.heap.size)
    (fun _ _ _ => False)
    (fun pre U V h hb' => ⟨Boxed.but h.1 hb' (by omega), Boxed.but h.2.1 hb' (by omega), h.2.2.1.trans (hb'.below (by omega) (by have := h.2.2.2; omega)), Nat.le_trans h.2.2.2 hb'.size⟩)
    (fun _ _ _ _ h _ => h)
    ⟨cj6, cc6, d6, by omega⟩
    (fun x => { tmps := #[.slice A n c, .agg #[.slice A' n' c', .slice P m d], undef, .pointer (some ⟨w.heap.size, 0, none⟩), .int .i64 0, .pointer (some ⟨bj, 0, none⟩), .pointer (some ⟨bj + 1, 0, none⟩), x.1, .slice A n c, .bool true, .bool false, .bool false,
      .agg #[.slice A' n' c', .slice P m d], .bool true, .bool false, .bool false, .pointer (some ⟨w.heap.size, 1, none⟩), .slice P m d, .int .u64 (jB J : Nat), .slice A n c, .pointer (some ⟨w.heap.size, 0, none⟩), .slice A' n' c',
      .func (.func 87) #[] #[.pointer (some ⟨bj + 2, 0, none⟩), .pointer (some ⟨bj + 2 + 1, 0, none⟩)], x.1, undef, undef, undef, undef, undef, undef], defers := [] }) ?assign ?body ?done ?stop
  case assign =>
    intro l x W K hK
    gi_wp2
    exact hK
  case body =>
    rintro l pre ⟨u, zs⟩ U W ⟨hjU, hcU, hBU, hsU⟩ hzU hbU ⟨hkn, hin⟩ hlen
    dsimp only at hkn hin ⊢
    obtain ⟨A9, c9, rfl, HF9⟩ := unhide HF W u zs _ hkn hin
    have HC := hide HF9
    have hj := boxed_later hjU hbU
    have hc := boxed_later hcU hbU
    have hBW := below_after hBU hbU
    have hsW := Nat.le_trans hsU hbU.size
    obtain ⟨bf, hbf⟩ : ∃ b, fitJ J zs = b := ⟨_, rfl⟩
    rw [hbf] at HC
    have hcj := hj.cell
    have hle := fitN_le J pre
    have HI := hide (⟨hj, hc, hBW, hsW⟩ : Boxed W bj 78 (.int .u64 (jB J : Nat)) ∧ Boxed W (bj + 1) 3 (.int .i64 (fitN J pre : Nat)) ∧ Below w.heap.size w W ∧ bj + 4 ≤ W.heap.size)
    have HFY := hide (show bf = true → fitN J (pre ++ [((.slice A9 n' c9 : Value), zs)]) = fitN J pre + 1 from fun h => fitN_snoc_yes (by rw [← h]; exact hbf))
    have HFN := hide (show bf = false → fitN J (pre ++ [((.slice A9 n' c9 : Value), zs)]) = fitN J pre from fun h => fitN_snoc_no (by rw [← h]; exact hbf))
    have HS6 := hide hs6
    clear hj hc hBW hsW hjU hcU hBU hsU hkn hin HF9 hbf hseq d6 cj6 cc6 hs6
    gi_wp2_with fail
    refine ⟨trivial, ?_⟩
    refine ((callsIn_wide.2 (unhide HC)).inRound l).mono ?_
    rintro e W2 ⟨rfl, dW⟩
    obtain ⟨hj, hc, hBW, hsW⟩ := unhide HI
    have dW' := dW.below W.heap.size
    have hj2 := boxed_later hj dW'
    have hc2 := boxed_later hc dW'
    have hB2 := hBW.trans (dW.below w.heap.size)
    have hs2 : bj + 4 ≤ W2.heap.size := by rw [dW.size]; exact hsW
    cases bf with
    | false =>
      have hend : (∀ r, Desk w6.heap.size r W → Desk w6.heap.size r W2) ∧ Keep (fun k => k < bj + 1 + 11 ∧ k ≠ bj + 1 ∧ k ≠ bj + 1 + 3 ∧ k ≠ bj + 1 + 4) W W2 ∧ Boxed W2 bj 78 (.int .u64 (jB J : Nat)) ∧ Boxed W2 (bj + 1) 3 (.int .i64 (fitN J (pre ++ [((.slice A9 n' c9 : Value), zs)]) : Nat)) ∧ Below w.heap.size w W2 ∧ bj + 4 ≤ W2.heap.size :=
        ⟨fun r hd => hd.later dW', Keep.of_below dW', hj2, by rw [unhide HFN rfl]; exact hc2, hB2, hs2⟩
      have HEND := hide hend
      clear hend hj hc hBW hsW dW dW' hj2 hc2 hB2 hs2 HI HFY HFN HC
      gi_wp2
      exact unhide HEND
    | true =>
      have hcell := hc2.cell
      have hfz := hc2.frozen
      have hg := grownBy_setCell' W2 (bj + 1) (.int .i64 ((fitN J pre : Nat) + 1))
      have hg1 := hg.size
      have h6 := unhide HS6
      have hend : (∀ r, Desk w6.heap.size r W → Desk w6.heap.size r (W2.setCell ⟨bj + 1, 0, none⟩ (.int .i64 ((fitN J pre : Nat) + 1)))) ∧ Keep (fun k => k < bj + 1 + 11 ∧ k ≠ bj + 1 ∧ k ≠ bj + 1 + 3 ∧ k ≠ bj + 1 + 4) W (W2.setCell ⟨bj + 1, 0, none⟩ (.int .i64 ((fitN J pre : Nat) + 1))) ∧ Boxed (W2.setCell ⟨bj + 1, 0, none⟩ (.int .i64 ((fitN J pre : Nat) + 1))) bj 78 (.int .u64 (jB J : Nat)) ∧
          Boxed (W2.setCell ⟨bj + 1, 0, none⟩ (.int .i64 ((fitN J pre : Nat) + 1))) (bj + 1) 3 (.int .i64 (fitN J (pre ++ [((.slice A9 n' c9 : Value), zs)]) : Nat)) ∧ Below w.heap.size w (W2.setCell ⟨bj + 1, 0, none⟩ (.int .i64 ((fitN J pre : Nat) + 1))) ∧ bj + 4 ≤ (W2.setCell ⟨bj + 1, 0, none⟩ (.int .i64 ((fitN J pre : Nat) + 1))).heap.size :=
        ⟨fun r hd => by
          have hd2 := hd.later dW'
          exact ⟨(hg.block _ hd2.lt (by simp; omega)).trans hd2.rec_, (hg.block _ (by have := hd2.lt; omega) (by simp; omega)).trans hd2.marks⟩,
         (Keep.of_below dW').trans (Keep.setCell W2 (by omega) _), (hg.block _ hj2.lt (by simp)).trans hj2, by rw [unhide HFY rfl]; exact Boxed.set _ hc2, hB2.setCell (p := ⟨bj + 1, 0, none⟩) (by show w.heap.size ≤ bj + 1; omega) _, by omega⟩
      have hwr : IntKind.i64.wrap ((fitN J pre : Nat) + 1) = ((fitN J pre : Nat) : Int) + 1 := by rw [IntKind.wrap_i64]; omega
      have HEND := hide hend
      clear hend hj hc hBW hsW dW dW' hj2 hc2 hB2 hs2 HI HFY HFN HC hg hg1 h6
      gi_wp2
      exact unhide HEND
  case done =>
    rintro ys W hS ⟨hj, hc, hB, hs⟩ hK
    have hcell := hc.cell
    rw [fitN_all hS] at hcell
    have hBP : Below w.heap.size w (W.putObj w6.heap.size (.deferred none)) := hB.trans ((Below.refl _ W).grown (grownBy_putObj' W _ _) (by omega) (fun k e => by cases e; omega))
    have HS6 := hide hs6
    clear hj hc hs6 hseq d6 cj6 cc6 hB
    gi_wp2
    refine ⟨by simp, .inl ⟨_, _, rfl, run_takeDeferred hK, ?_⟩⟩
    refine ⟨_, results_tmp rfl _ _ _, ?_⟩
    exact ⟨rfl, hBP⟩
  case stop =>
    rintro c pre W _ h _
    exact h.elim
set_option maxHeartbeats 800000 in
theorem icntn_any (A A' P : Option Addr) (n c B n' c' B' m d B2 : Nat) (p q J : List Int) (w : World) (h : Arg w B A n c p) (h' : Arg w B' A' n' c' q) (h2 : Arg w B2 P m d J) :
    Calls Try.prog 45 #[.slice A n c, .agg #[.slice A' n' c', .slice P m d]] w (GivesN w (numNear p q J)) := by
  obtain ⟨bp, hp⟩ : ∃ b, isP p = b := ⟨_, rfl⟩
  obtain ⟨bn, hok⟩ : ∃ b, nearOK q J = b := ⟨_, rfl⟩
  cases bp with
  | false =>
    obtain ⟨w0, hw0⟩ : ∃ w0, w0 = w.alloc (.cells #[.slice A' n' c', .slice P m d] 52) := ⟨_, rfl⟩
    have b0 : Below w.heap.size w w0 := by rw [hw0]; exact (Below.refl _ w).alloc (Nat.le_refl _) _
    have H1 := hide (iisperm_any A n c B p false hp w0 (h.below b0).reads (h.below b0).under h.le h.small)
    rw [numNear_no (.inl hp)]
    have HW0 := hide hw0
    clear h h' h2 hp hok hw0
    go_enter Try.func45, Try.ntmps45
    go_wp2_with fail
    rw [← unhide HW0]
    refine (unhide H1).mono ?_
    rintro e w1 ⟨rfl, d1⟩
    have d := below_after b0 d1
    clear H1 HW0 b0 d1
    go_wp2
    go_ret
    exact ⟨rfl, d⟩
  | true =>
    cases bn with
    | true =>
      rw [numNear_yes hp hok]
      exact cntn_yes A A' P n c B n' c' B' m d B2 p q J w h h' h2 hp hok
    | false =>
      obtain ⟨w0, hw0⟩ : ∃ w0, w0 = w.alloc (.cells #[.slice A' n' c', .slice P m d] 52) := ⟨_, rfl⟩
      have b0 : Below w.heap.size w w0 := by rw [hw0]; exact (Below.refl _ w).alloc (Nat.le_refl _) _
      have g0 : Whole w0 w.heap.size 52 #[.slice A' n' c', .slice P m d] := by rw [hw0]; exact Whole.new _ _ _
      have H1 := hide (iisperm_any A n c B p true hp w0 (h.below b0).reads (h.below b0).under h.le h.small)
      have H2 := hide (show ∀ w1, Below w.heap.size w w1 → _ from fun w1 d1 => inear_any A' P n' c' B' m d B2 q J w1 (h'.below d1) (h2.below d1))
      rw [hok] at H2
      rw [numNear_no (.inr hok)]
      have HW0 := hide hw0
      clear h h' h2 hp hok hw0
      go_enter Try.func45, Try.ntmps45
      go_wp2_with fail
      rw [← unhide HW0]
      refine (unhide H1).mono ?_
      rintro e w1 ⟨rfl, d1⟩
      have d1' := below_after b0 d1
      have g1 := g0.below d1 g0.lt
      have x0 := g1.cell 0
      have x1 := g1.cell 1
      simp only [List.getElem?_toArray, List.getElem?_cons_zero, List.getElem?_cons_succ] at x0 x1
      have HX := hide (unhide H2 w1 d1')
      clear H1 H2 HW0 b0 d1 g0 g1
      go_wp2_with fail
      refine (unhide HX).mono ?_
      rintro e w2 ⟨rfl, d2⟩
      have d := below_after d1' d2
      clear HX d1' d2
      go_wp2
      go_ret
      exact ⟨rfl, d⟩
end Go.Proofs.Ytichenjbkclljaa
