/-
  Words and contracts that the laws lean on, bundled: OccR, PatF, ClassU, ClassF, ClassN, ClassC, PermT, PermI, ClassB.
-/
import Derived.Test.YtoiipedomgefaaaGreatDoorB4
import Derived.Test.YtoiipedomgefaaaGreatDoorB3
import Derived.Deep.RegionHeld3
import Derived.Test.YtoiipedomgefaaaGreatDoorB2
import Derived.Test.YtoiipedomgefaaaGreatDoorB5
import Derived.Test.YtoiipedomgefaaaGreatDoorB1
import Derived.Lib.ItoaNum

/-
  spec.OccurrencesOf, spec.CountPattern, spec.HasPattern, spec.IsOccurrence, by their contracts.
-/

namespace Go.Proofs.YtoiipedomgefaaaGreatDoor
set_option maxRecDepth 100000
open Go.RowKit

/-- How often q occurs in p. -/
def numOcc (p q : List Int) : Int := if isP p && isP q then ((occR p q).length : Int) else -1
def hasR (p q : List Int) : Bool := decide (1 ≤ numOcc p q)
theorem numOcc_rng (p q : List Int) : -1 ≤ numOcc p q ∧ numOcc p q ≤ 256 := by
  unfold numOcc
  by_cases h : (isP p && isP q) = true
  · rw [if_pos h]
    have := occ_size p q (by simp at h; exact h.1)
    omega
  · rw [if_neg h]; omega
end Go.Proofs.YtoiipedomgefaaaGreatDoor


/-
  PLAIN: patterns of patterns are patterns; what FnPatterns needs of them.
-/

namespace Go.Proofs.YtoiipedomgefaaaGreatDoor
set_option maxRecDepth 100000

theorem hasR_yes {p q : List Int} (hp : isP p = true) (hq : isP q = true) (h : 0 < (occR p q).length) : hasR p q = true := by
  unfold hasR numOcc
  rw [if_pos (by simp [hp, hq])]
  exact decide_eq_true (by omega)
theorem hasR_iff {p q : List Int} (hp : isP p = true) (hq : isP q = true) : hasR p q = true ↔ ∃ pl, PlOK p.length pl ∧ pl.length = q.length ∧ Alike (nums p pl) q := by
  constructor
  · intro h
    unfold hasR numOcc at h
    rw [if_pos (by simp [hp, hq])] at h
    have := of_decide_eq_true h
    obtain ⟨pl, hpl⟩ := List.exists_mem_of_length_pos (show 0 < (occR p q).length by omega)
    obtain ⟨_, _, h3, h4, h5⟩ := isOcc_iff.1 (mem_occ.1 hpl)
    exact ⟨pl, h4, h3, (pat_eq_iff hq).1 h5⟩
  · rintro ⟨pl, h1, h2, h3⟩
    exact hasR_yes hp hq (List.length_pos_of_mem (a := pl) (mem_occ.2 (isOcc_iff.2 ⟨hp, hq, h2, h1, (pat_eq_iff hq).2 h3⟩)))
theorem hasR_sub {p s : List Int} (hp : isP p = true) (h : s.Sublist p) (hs : isP (patL s) = true) : hasR p (patL s) = true := hasR_yes hp hs (occ_sub hp h hs)
theorem numOcc_yes {p q : List Int} (hp : isP p = true) (hq : isP q = true) : numOcc p q = ((occR p q).length : Int) := by unfold numOcc; rw [if_pos (by simp [hp, hq])]
theorem num_inv {p q : List Int} (hp : isP p = true) (hq : isP q = true) : numOcc (invR p) (invR q) = ((occR p q).length : Int) := by
  rw [invR_yes hp, invR_yes hq]
  have := occ_inv_len hp hq
  unfold invL at this
  rw [numOcc_yes (isP_inv hp) (isP_inv hq), this]
theorem num_rev {p q : List Int} (hp : isP p = true) (hq : isP q = true) : numOcc (revR p) (revR q) = ((occR p q).length : Int) := by
  rw [revR_yes hp, revR_yes hq, numOcc_yes (isP_rev hp) (isP_rev hq), occ_rev_len]
/-- Each pattern is one. -/
theorem patK_mem {p : List Int} {k : Int} : ∀ {s : Nat} {x : List Int}, x ∈ patK p k s → ∃ t, x = patL (subK p t p.length)
  | 0, x, h => by rw [show patK p k 0 = [] from rfl] at h; cases h
  | s + 1, x, h => by
    by_cases hk : ((subK p s p.length).length : Int) = k
    · rw [patK_yes hk, mem_putL] at h
      rcases h with h | h
      · exact patK_mem h
      · exact ⟨s, h⟩
    · rw [patK_no hk] at h
      exact patK_mem h
theorem pats_has {p x : List Int} {k : Int} (h : x ∈ patsR p k) : hasR p x = true := by
  cases hk : patsOK p k with
  | false => rw [patsR_no hk] at h; cases h
  | true =>
    have hp : isP p = true := by unfold patsOK at hk; rw [Bool.and_eq_true] at hk; exact hk.1
    rw [patsR_yes hk] at h
    obtain ⟨t, rfl⟩ := patK_mem h
    refine hasR_sub hp ?_ (subK_isP hp t)
    have := subK_sub p t p.length (Nat.le_refl _)
    rwa [List.take_length] at this
theorem wpl_has {p : List Int} {x : Int} (h : wplOK p x = true) : hasR p (wplR p x) = true := by
  have hp : isP p = true := by unfold wplOK at h; rw [Bool.and_eq_true] at h; exact h.1
  rw [wplR_yes h]
  exact hasR_sub hp (cutAt_sub p _) (cutAt_isP hp _)
theorem wpl_low {p : List Int} {x : Int} (h : wplOK p x = true) : wplR p x ∈ lowR p := by
  have hp : isP p = true := by unfold wplOK at h; rw [Bool.and_eq_true] at h; exact h.1
  have hx : 1 ≤ x ∧ x ≤ (p.length : Int) := by unfold wplOK at h; rw [Bool.and_eq_true] at h; exact of_decide_eq_true h.2
  rw [wplR_yes h, lowR_yes hp]
  unfold lowK
  rw [(foldl_put _ [] List.Pairwise.nil).2.1]
  refine .inr (List.mem_map.2 ⟨x.toNat - 1, List.mem_range.2 (by omega), rfl⟩)
/-! how much it is -/
theorem tot_room (m : Nat) : ∀ l : List (List Int), (∀ z ∈ l, z.length ≤ m) → tot l ≤ m * l.length
  | [], _ => by simp [tot]
  | z :: l, h => by
    have h1 := h z (by simp)
    have h2 := tot_room m l fun y hy => h y (by simp [hy])
    simp only [tot, List.length_cons, List.map_cons, List.sum_cons, Nat.mul_add, Nat.mul_one] at h2 ⊢
    omega
theorem occ_room (p q : List Int) : (occR p q).length ≤ 256 ∧ tot (occR p q) ≤ 2048 := by
  have ht := tot_room 8 (occR p q) fun z hz => by
    obtain ⟨_, h2, h3, _⟩ := isOcc_iff.1 (mem_occ.1 hz)
    have := isP_le h2
    omega
  have hnum := numOcc_rng p q
  have h8 : (occR p q).length ≤ 256 := by
    cases hpp : isP p with
    | false => rw [occR_no (.inl hpp)]; simp
    | true =>
      cases hqq : isP q with
      | false => rw [occR_no (.inr hqq)]; simp
      | true => rw [numOcc_yes hpp hqq] at hnum; omega
  exact ⟨h8, by omega⟩
theorem pats_all {p z : List Int} {k : Int} (h : z ∈ patsR p k) : isP z = true := by
  cases hk : patsOK p k with
  | false => rw [patsR_no hk] at h; cases h
  | true =>
    have hp : isP p = true := by unfold patsOK at hk; rw [Bool.and_eq_true] at hk; exact hk.1
    rw [patsR_yes hk] at h
    exact patK_all hp k _ z h
theorem pats_size (p : List Int) (k : Int) : (patsR p k).length ≤ 256 ∧ tot (patsR p k) ≤ 2048 := by
  have ht := tot_room 8 (patsR p k) fun z hz => isP_le (pats_all hz)
  have h8 : (patsR p k).length ≤ 256 := by
    cases hk : patsOK p k with
    | false => rw [patsR_no hk]; simp
    | true =>
      have hp : isP p = true := by unfold patsOK at hk; rw [Bool.and_eq_true] at hk; exact hk.1
      rw [patsR_yes hk]
      have h1 := patK_len p k (2 ^ p.length)
      have h2 : 2 ^ p.length ≤ 2 ^ 8 := Nat.pow_le_pow_right (by omega) (isP_le hp)
      omega
  exact ⟨h8, by omega⟩
theorem low_all {p z : List Int} (h : z ∈ lowR p) : isP z = true := by
  cases hp : isP p with
  | false => rw [lowR_no hp] at h; cases h
  | true => rw [lowR_yes hp] at h; exact lowK_all hp _ z h
theorem low_size (p : List Int) : (lowR p).length ≤ 8 ∧ tot (lowR p) ≤ 64 := by
  have ht := tot_room 8 (lowR p) fun z hz => isP_le (low_all hz)
  have h8 : (lowR p).length ≤ 8 := by
    cases hp : isP p with
    | false => rw [lowR_no hp]; simp
    | true =>
      rw [lowR_yes hp]
      have h1 := lowK_len p p.length
      have := isP_le hp
      omega
  exact ⟨h8, by omega⟩
theorem occ_is {p q pl : List Int} (h : pl ∈ occR p q) : isOcc p q pl = true := mem_occ.1 h
end Go.Proofs.YtoiipedomgefaaaGreatDoor


/-
  spec.l12In and spec.BasisUpTo, by their contracts.
-/

namespace Go.Proofs.YtoiipedomgefaaaGreatDoor
set_option maxRecDepth 100000
open Go.RowKit

/-- What BasisUpTo keeps. -/
def okL (L : List (List Int)) (q : List Int) : Bool := decide (q.length = 0) || decide (q ∈ L)
def fineU (L : List (List Int)) (p : List Int) : Bool := !decide (p ∈ L) && (lowR p).all (okL L)
def buK (L : List (List Int)) : Nat → List (List Int)
  | 0 => []
  | k + 1 => buK L k ++ (permL (k + 1)).filter (fineU L)
def buR (L : List (List Int)) (m : Int) : List (List Int) := if allP L = true ∧ 0 ≤ m ∧ m ≤ 6 then buK L m.toNat else []
theorem buR_no {L : List (List Int)} {m : Int} (h : ¬ (allP L = true ∧ 0 ≤ m ∧ m ≤ 6)) : buR L m = [] := by unfold buR; rw [if_neg h]
theorem buR_yes {L : List (List Int)} {k : Nat} (h : allP L = true) (hk : k ≤ 6) : buR L (k : Int) = buK L k := by unfold buR; rw [if_pos ⟨h, by omega, by omega⟩, Int.toNat_natCast]
theorem buK_le (L : List (List Int)) : ∀ k, k ≤ 6 → (buK L k).length ≤ 720 * k
  | 0, _ => Nat.le_refl _
  | k + 1, h => by
    have ih := buK_le L k (by omega)
    have h1 := (permL_small (k + 1) h).1
    have h2 := List.length_filter_le (fineU L) (permL (k + 1))
    rw [buK, List.length_append]
    omega
set_option maxHeartbeats 800000 in
theorem l12in_any (A A' : Option Addr) (n c B n' c' B' : Nat) (zss : List (List Int)) (p : List Int) (b : Bool) (hb : decide (p ∈ zss) = b) (w : World) (hS : IntsS w B (.slice A n c) zss) (h' : Arg w B' A' n' c' p) (hz : ∀ z ∈ zss, isP z = true) (hn : n ≤ 1048576) :
    Calls Tryz.prog 112 #[.slice A n c, .slice A' n' c'] w fun e w' => e = .returned (.bool b) ∧ Drew w w' := by
  have hl := hS.len
  have HA := hide (⟨hS, h', hz⟩ : IntsS w B (.slice A n c) zss ∧ Arg w B' A' n' c' p ∧ ∀ z ∈ zss, isP z = true)
  have HL := hide hl
  have HB := hide hb
  clear hS h' hz hl hb
  go_enter Tryz.func112, Tryz.ntmps112
  go_wp2
  go_loopw [5] (fun i wr => ∃ k : Nat, k ≤ n ∧ i = .int .i64 k ∧ Drew w wr ∧ Hid (p ∉ zss.take k)) (fun i _ => n - (intOf i).toNat)
  case atStart => exact ⟨0, Nat.zero_le _, rfl, Drew.refl _, by exact (by simp : p ∉ zss.take 0)⟩
  case round =>
    obtain ⟨k, hk, rfl, hd, hno⟩ := hrel
    by_cases hlt : k < n
    · have hbw := hd.below w.heap.size
      obtain ⟨ad, A6, c6, z, rfl, hzk, hcell, hI⟩ := ((unhide HA).1.below hbw).at_ hlt
      have hzp := (unhide HA).2.2 z (List.mem_of_getElem? hzk)
      obtain ⟨b2, hb2⟩ : ∃ b, decide (z = p) = b := ⟨_, rfl⟩
      have H4 := hide (l2same_any A6 A' z.length c6 _ n' c' B' z p b2 hb2 wr (hI.argP hzp) ((unhide HA).2.1.below hbw))
      have HD := hide hd
      cases b2 with
      | true =>
        have hm : p ∈ zss := by rw [← of_decide_eq_true hb2]; exact List.mem_of_getElem? hzk
        obtain rfl : b = true := (unhide HB).symm.trans (decide_eq_true hm)
        clear hbw hzk hzp hI hb2 hd hno hm
        go_wp2_with fail
        refine (unhide H4).mono ?_
        rintro e w2 ⟨rfl, d2⟩
        have hd2 := (unhide HD).trans d2
        clear H4 HD d2
        go_wp2
        go_ret
        exact ⟨rfl, hd2⟩
      | false =>
        have hne := of_decide_eq_false hb2
        have HN := hide (show p ∉ zss.take (k + 1) by
          rw [List.take_add_one, hzk, List.mem_append]
          rintro (h | h)
          · exact unhide hno h
          · simp at h; exact hne h.symm)
        clear hbw hzk hzp hI hb2 hd hno hne
        go_wp2_with fail
        refine (unhide H4).mono ?_
        rintro e w2 ⟨rfl, d2⟩
        have hd2 := (unhide HD).trans d2
        clear H4 HD d2
        go_wp2
        go_roundw
        case rel => exact ⟨k + 1, by omega, by go_num, hd2, HN⟩
        case measure => simp [intOf]; omega
    · obtain rfl : n = k := by omega
      have hm : p ∉ zss := by have h := unhide hno; rwa [List.take_of_length_le (by rw [unhide HL]; exact Nat.le_refl _)] at h
      obtain rfl : b = false := (unhide HB).symm.trans (decide_eq_false hm)
      clear hno hm
      go_wp2
      go_ret
      exact ⟨rfl, hd⟩
theorem okL_take {L low : List (List Int)} {i : Nat} {q : List Int} (h : low[i]? = some q) : (low.take (i + 1)).all (okL L) = ((low.take i).all (okL L) && okL L q) := by rw [List.take_add_one, h]; simp
theorem okL_false {L low : List (List Int)} {i : Nat} (h : (low.take i).all (okL L) = false) : low.all (okL L) = false := by
  rw [List.all_eq_false] at h ⊢
  obtain ⟨x, hx, he⟩ := h
  exact ⟨x, List.mem_of_mem_take hx, he⟩
set_option maxHeartbeats 3200000 in
theorem sbu_any (A : Option Addr) (n c B : Nat) (zss : List (List Int)) (m : Int) (hm : -9223372036854775808 ≤ m ∧ m ≤ 9223372036854775807) (w : World) (hS : IntsS w B (.slice A n c) zss) (hn : n ≤ 1048576) (hsm : ∀ z ∈ zss, z.length ≤ 1048576 ∧ Small z) :
    Calls Tryz.prog 64 #[.slice A n c, .int .i64 m] w (GivesSS w (buR zss m)) := by
  obtain ⟨hm1, hm2⟩ := hm
  have hst := IntsS.made0 w w.heap.size (Nat.le_refl _)
  have hbel := (Below.refl w.heap.size w).alloc (Nat.le_refl _) (.cells #[] 36)
  obtain ⟨b, hb⟩ : ∃ b, allP zss = b := ⟨_, rfl⟩
  have H1 := hide (l3all_any A n c B zss b hb _ (hS.below hbel) hn hsm)
  cases b with
  | false =>
    rw [buR_no (fun h => by rw [hb] at h; cases h.1)]
    clear hb hS hsm
    go_enter Tryz.func64, Tryz.ntmps64
    go_wp2_with fail
    refine (unhide H1).mono ?_
    rintro e w1 ⟨rfl, d1⟩
    have hI2 := hst.below (d1.below _)
    have hb1 := hbel.trans (d1.below _)
    clear H1 d1 hst hbel
    go_wp2
    go_ret
    exact GivesSS.mk hI2 hb1
  | true =>
    by_cases hin : 0 ≤ m ∧ m ≤ 6
    · obtain ⟨K, rfl⟩ : ∃ k : Nat, m = (k : Int) := ⟨m.toNat, by omega⟩
      have hK6 : K ≤ 6 := by omega
      rw [buR_yes hb hK6]
      have H2 := hide (fun w' => l1in_any (K : Int) 0 6 true (decide_eq_true hin) w')
      have HA := hide (⟨hS, fun z hz => allP_at hb hz⟩ : IntsS w B (.slice A n c) zss ∧ ∀ z ∈ zss, isP z = true)
      clear hb hS hsm hin hm1 hm2
      go_enter Tryz.func64, Tryz.ntmps64
      go_wp2_with fail
      refine (unhide H1).mono ?_
      rintro e w1 ⟨rfl, d1⟩
      have hst1 := hst.below (d1.below _)
      have hb1 := hbel.trans (d1.below _)
      clear H1 d1 hst hbel
      go_wp2_with fail
      refine (unhide H2 w1).mono ?_
      rintro e w2 ⟨rfl, hw2⟩
      rw [hw2]
      clear H2 hw2 w2
      go_wp2
      go_loopw [5, 6, 7, 8, 9, 10, 11] (fun ov mv _ _ _ _ _ wr => ∃ j : Nat, j ≤ K ∧ mv = .int .i64 ((j : Int) + 1) ∧ Below w.heap.size w wr ∧ IntsS wr w.heap.size ov (buK zss j)) (fun _ mv _ _ _ _ _ _ => K + 1 - (intOf mv).toNat)
      case atStart => exact ⟨0, Nat.zero_le _, rfl, hb1, hst1⟩
      case round =>
        obtain ⟨j, hj, rfl, hb, ho⟩ := hrel
        clear hst1 hb1
        by_cases hjK : j < K
        · have hjK2 : (j : Int) + 1 ≤ (K : Int) := by omega
          have H3 := hide (by have h5 := sperms_any ((j + 1 : Nat) : Int) (by omega) wr; rw [permsR_yes (by omega), show ((j + 1 : Nat) : Int) = (j : Int) + 1 by omega] at h5; exact h5)
          have hLs := (permL_small (j + 1) (by omega)).1
          have HPP := hide (fun (i : Nat) (z : List Int) (hz : (permL (j + 1))[i]? = some z) => permL_isPm (j + 1) (by omega) z (List.mem_of_getElem? hz))
          have HST := hide (show buK zss (j + 1) = buK zss j ++ sift (fineU zss) (permL (j + 1)) (permL (j + 1)).length by rw [sift_all]; rfl)
          have hU := buK_le zss j (by omega)
          obtain ⟨Z, hZ⟩ : ∃ Z, Z = permL (j + 1) := ⟨_, rfl⟩
          rw [← hZ] at H3 hLs HPP HST
          obtain ⟨U, hUe⟩ : ∃ U, U = buK zss j := ⟨_, rfl⟩
          rw [← hUe] at ho HST hU
          have hU2 : U.length ≤ 4320 := by omega
          obtain ⟨wo, hwo⟩ : ∃ wo : World, wo = wr := ⟨_, rfl⟩
          rw [← hwo] at H3 ho hb ⊢
          clear hZ hUe hU hwo
          go_wp2_with fail
          refine (unhide H3).mono ?_
          rintro e w3 ⟨A3, c3, rfl, o3, d3⟩
          have hb3 := below_after hb d3
          obtain ⟨vs, us0, hsib⟩ := Sib.next ho d3 o3 hb.size
          obtain ⟨C, hC⟩ : ∃ C, C = wo.heap.size := ⟨_, rfl⟩
          rw [← hC] at hsib
          obtain ⟨N, hN⟩ : ∃ N, N = Z.length := ⟨_, rfl⟩
          rw [← hN] at hLs hsib HST ⊢
          have hsib0 : Sib w3 w.heap.size C (.slice A3 N c3) vs Z u5 us0 (U ++ sift (fineU zss) Z 0) 0 := by unfold sift; rw [List.take_zero]; simpa using hsib
          have HN := hide hN
          clear H3 o3 d3 ho hb hN hC hsib
          go_wp2
          go_loopw [5, 8, 9, 10, 11] (fun ov kv _ _ _ wi => ∃ (k : Nat) (us : List Value), k ≤ N ∧ kv = .int .i64 k ∧ Below w.heap.size w wi ∧ Sib wi w.heap.size C (.slice A3 N c3) vs Z ov us (U ++ sift (fineU zss) Z k) k) (fun _ kv _ _ _ _ => N - (intOf kv).toNat)
          case atStart => exact ⟨0, us0, Nat.zero_le _, rfl, hb3, hsib0⟩
          case round =>
            obtain ⟨k, us, hk, rfl, hbk, hs⟩ := hrel
            clear hsib0 hb3
            obtain ⟨wk, hwk⟩ : ∃ wk : World, wk = wr := ⟨_, rfl⟩
            rw [← hwk] at hbk hs ⊢
            clear hwk
            have hle := sift_le (fineU zss) Z k
            by_cases hkN : k < N
            · obtain ⟨ad, A6, c6, z, rfl, hz, hvz, hcell, hI⟩ := hs.row rfl hkN
              have hzp := unhide HPP k z hz
              obtain ⟨b0, hb0⟩ : ∃ b, decide (z ∈ zss) = b := ⟨_, rfl⟩
              have H4 := hide (l12in_any A A6 n c B z.length c6 _ zss z b0 hb0 wk ((unhide HA).1.below hbk) (hI.argP hzp) (unhide HA).2 hn)
              have H5 := hide (fun (w' : World) (d : Below wk.heap.size wk w') => slow_any A6 z.length c6 _ z w' ((hI.argP hzp).below d))
              have HLW := hide (⟨(low_size z).1, fun (q : List Int) (hq : q ∈ lowR z) => low_all hq⟩ : (lowR z).length ≤ 8 ∧ ∀ q ∈ lowR z, isP q = true)
              have HFU := hide (show fineU zss z = (!b0 && (lowR z).all (okL zss)) by unfold fineU; rw [hb0])
              have HZ := hide (⟨hz, hvz⟩ : _ ∧ _)
              have HS := hide hs
              have HB := hide hbk
              have hcl := World.block_lt_of_cell? wk _ hcell
              obtain ⟨lz, hlz⟩ : ∃ l, l = z.length := ⟨_, rfl⟩
              rw [← hlz] at hcell H4 H5 HZ
              obtain ⟨LW, hLW⟩ : ∃ l, l = lowR z := ⟨_, rfl⟩
              rw [← hLW] at H5 HLW HFU
              clear hz hvz hzp hI hs hbk hlz hb0 hLW
              go_wp2_with fail
              refine (unhide H4).mono ?_
              rintro e w4 ⟨rfl, d4⟩
              have d4b := d4.below wk.heap.size
              have H6 := hide (unhide H5 w4 d4b)
              have hcell4 := (d4.cell _).trans hcell
              clear H4 H5 d4
              go_wp2_with fail
              refine (unhide H6).mono ?_
              rintro e w5 ⟨A5, c5, rfl, o5, d5⟩
              have d5b := below_after d4b d5
              have hcell5 := (d5b.cell hcl).trans hcell
              obtain ⟨nl, hnl⟩ : ∃ l, l = LW.length := ⟨_, rfl⟩
              rw [← hnl] at o5 ⊢
              have HO5 := hide o5
              have hnl8 : nl ≤ 8 := by rw [hnl]; exact (unhide HLW).1
              have HNL := hide hnl
              clear H6 hcell4 d4b d5 o5 hnl hcell
              go_wp2
              go_loopw [9, 11] (fun fv iv wi => ∃ i : Nat, i ≤ nl ∧ iv = .int .i64 i ∧ fv = .bool (!b0 && (LW.take i).all (okL zss)) ∧ Below w5.heap.size w5 wi) (fun _ iv _ => nl - (intOf iv).toNat)
              case atStart => exact ⟨0, Nat.zero_le _, rfl, by rw [List.take_zero]; simp, Below.refl _ _⟩
              case round =>
                obtain ⟨i, hi, rfl, rfl, hd⟩ := hrel
                have hcell6 := (hd.cell (Nat.lt_of_lt_of_le hcl d5b.size)).trans hcell5
                have hd6 := below_after d5b hd
                obtain ⟨f, hf⟩ : ∃ f, f = (!b0 && (LW.take i).all (okL zss)) := ⟨_, rfl⟩
                rw [← hf]
                by_cases hil : i < nl
                · cases f with
                  | true =>
                    obtain ⟨ad2, A7, c7, y, hade, hy, hcy, hIy⟩ := ((unhide HO5).below hd).at_ hil
                    subst hade
                    have hyp := (unhide HLW).2 y (List.mem_of_getElem? hy)
                    have HF := hide (show okL zss y = (!b0 && (LW.take (i + 1)).all (okL zss)) by rw [okL_take hy, ← Bool.and_assoc, ← hf, Bool.true_and])
                    by_cases hy0 : y.length = 0
                    · have HT := hide (show okL zss y = true by unfold okL; rw [decide_eq_true hy0]; rfl)
                      rw [hy0] at hcy
                      have HD := hide hd
                      clear hy hIy hyp hf hd hcell6 hd6 hy0
                      go_wp2
                      go_roundw
                      case rel => exact ⟨i + 1, by omega, by go_num, by rw [← unhide HF, unhide HT], unhide HD⟩
                      case measure => simp [intOf]; omega
                    · obtain ⟨b2, hb2⟩ : ∃ b, decide (y ∈ zss) = b := ⟨_, rfl⟩
                      have HT := hide (show okL zss y = b2 by unfold okL; rw [decide_eq_false hy0, hb2]; rfl)
                      have H7 := hide (l12in_any A A7 n c B y.length c7 _ zss y b2 hb2 wr ((unhide HA).1.below (below_after (unhide HB) hd6)) (hIy.argP hyp) (unhide HA).2 hn)
                      have hy0b : ((y.length : Int) == 0) = false := by rw [beq_eq_false_iff_ne]; omega
                      obtain ⟨ly, hly⟩ : ∃ l, l = y.length := ⟨_, rfl⟩
                      rw [← hly] at hcy H7 hy0b
                      have HD := hide hd
                      clear hy hIy hyp hf hd hcell6 hd6 hy0 hly hb2
                      go_wp2_with fail
                      refine (unhide H7).mono ?_
                      rintro e w7 ⟨rfl, d7⟩
                      have hd7 := (unhide HD).trans (d7.below _)
                      clear H7 HD d7 hcy
                      go_wp2
                      go_roundw
                      case rel => exact ⟨i + 1, by omega, by go_num, by rw [← unhide HF, unhide HT], hd7⟩
                      case measure => simp [intOf]; omega
                  | false =>
                    have HN0 := hide (show fineU zss z = false by
                      rw [unhide HFU]
                      cases b0 with
                      | true => rfl
                      | false => rw [Bool.not_false, Bool.true_and] at hf ⊢; exact okL_false hf.symm)
                    have hs7 := (unhide HS).below hd6
                    have hb7 := below_after (unhide HB) hd6
                    have HE := hide (sift_no (unhide HZ).1 (unhide HN0))
                    have hs8 := hs7.skip
                    rw [← unhide HE] at hs8
                    have HS8 := hide hs8
                    clear hf hs7 hs8 hd hd6 hcell6
                    go_wp2
                    go_roundw
                    case rel => exact ⟨k + 1, us, by omega, by go_num, hb7, unhide HS8⟩
                    case measure => simp [intOf]; omega
                · obtain rfl : nl = i := by omega
                  have hff : fineU zss z = f := by
                    rw [unhide HFU, hf, List.take_of_length_le (by rw [unhide HNL]; exact Nat.le_refl _)]
                  have hs7 := (unhide HS).below hd6
                  have hb7 := below_after (unhide HB) hd6
                  have hlen : (U ++ sift (fineU zss) Z k).length ≤ 1048576 := by rw [List.length_append]; omega
                  cases f with
                  | true =>
                    have HE := hide (sift_yes (unhide HZ).1 hff)
                    clear hf hff hd hd6
                    go_wp2_with (first
                      | (at_builtin; refine wpList_sift rfl (.tmp 71) (.tmp 76) rfl w.heap.size C w wr (.slice (some ad) N c3) _ (.slice A6 lz c6) vs us Z (U ++ sift (fineU zss) Z k) k z rfl rfl rfl hs7 (unhide HZ).2 (unhide HZ).1 hlen hb7 (Nat.le_refl _) ?_; intro v8 w8 hs8 hb8))
                    rw [List.append_assoc, ← unhide HE] at hs8
                    clear hs7 hb7 hcell6 hlen
                    go_roundw
                    case rel => exact ⟨k + 1, _, by omega, by go_num, hb8, hs8⟩
                    case measure => simp [intOf]; omega
                  | false =>
                    have HE := hide (sift_no (unhide HZ).1 hff)
                    have hs8 := hs7.skip
                    rw [← unhide HE] at hs8
                    have HS8 := hide hs8
                    clear hf hff hs7 hs8 hd hd6 hcell6 hlen
                    go_wp2
                    go_roundw
                    case rel => exact ⟨k + 1, us, by omega, by go_num, hb7, unhide HS8⟩
                    case measure => simp [intOf]; omega
            · obtain rfl : N = k := by omega
              have hO := hs.outS
              rw [← unhide HST] at hO
              have HO := hide hO
              clear hs hO
              go_wp2
              go_roundw
              case rel => exact ⟨j + 1, by omega, by go_num, hbk, unhide HO⟩
              case measure => simp [intOf]; omega
        · obtain rfl : j = K := by omega
          have hjK2 : ¬ ((j : Int) + 1 ≤ (j : Int)) := by omega
          have HO := hide ho
          clear ho
          go_wp2
          go_ret
          exact GivesSS.mk (unhide HO) hb
    · rw [buR_no (fun h => hin h.2)]
      have H2 := hide (fun w' => l1in_any m 0 6 false (decide_eq_false hin) w')
      clear hb hS hsm hin
      go_enter Tryz.func64, Tryz.ntmps64
      go_wp2_with fail
      refine (unhide H1).mono ?_
      rintro e w1 ⟨rfl, d1⟩
      have hI2 := hst.below (d1.below _)
      have hb1 := hbel.trans (d1.below _)
      clear H1 d1 hst hbel
      go_wp2_with fail
      refine (unhide H2 w1).mono ?_
      rintro e w2 ⟨rfl, hw2⟩
      rw [hw2]
      clear H2 hw2 w2
      go_wp2
      go_ret
      exact GivesSS.mk hI2 hb1
end Go.Proofs.YtoiipedomgefaaaGreatDoor


/-
  PLAIN: a class has every pattern of its permutations; its basis is found again. Nothing here speaks of the program.
-/

namespace Go.Proofs.YtoiipedomgefaaaGreatDoor
set_option maxRecDepth 100000

theorem short_cut {s p : List Int} (h : s.Sublist p) : s.length < p.length → ∃ i, i < p.length ∧ s.Sublist (cutAt p i) := by
  induction h with
  | slnil => intro h; simp at h
  | cons a h ih => intro _; exact ⟨0, by simp, by simpa [cutAt] using h⟩
  | cons_cons a h ih =>
    intro hl
    simp only [List.length_cons, Nat.add_lt_add_iff_right] at hl
    obtain ⟨i, hi, hs⟩ := ih hl
    exact ⟨i + 1, by simpa using hi, by simpa [cutAt] using hs⟩
theorem cut_sub (p : List Int) (i : Nat) : (cutAt p i).Sublist p := by
  unfold cutAt
  have h := List.take_append_drop i p
  conv => rhs; rw [← h]
  exact (List.Sublist.refl _).append (List.drop_sublist_drop_left p (Nat.le_succ i))
theorem low_mem {p q : List Int} (hp : isP p = true) : q ∈ lowR p ↔ ∃ i, i < p.length ∧ q = patL (cutAt p i) := by rw [lowR_yes hp]; exact lowK_mem
theorem low_len {p q : List Int} (hp : isP p = true) (h : q ∈ lowR p) : q.length + 1 = p.length := by
  obtain ⟨i, hi, rfl⟩ := (low_mem hp).1 h
  rw [patL_length]
  exact cutAt_len hi
/-- What occurs in a pattern of one number less occurs in the whole; what is shorter and occurs, occurs in one of those. -/
theorem has_low {p q b : List Int} (hp : isP p = true) (hb : isP b = true) (hq : q ∈ lowR p) (h : hasO q b = true) : hasO p b = true := by
  have hqp := low_all hq
  obtain ⟨i, hi, rfl⟩ := (low_mem hp).1 hq
  exact hasO_pat hp hb (cut_sub p i) hqp h
theorem low_has {p b : List Int} (hp : isP p = true) (hb : isP b = true) (h : hasO p b = true) (hne : b ≠ p) : ∃ q ∈ lowR p, hasO q b = true := by
  obtain ⟨s, hs, hsb⟩ := (hasO_iff hp hb).1 h
  have hl : s.length < p.length := by
    apply Nat.lt_of_le_of_ne hs.length_le
    intro e
    apply hne
    rw [← hsb, hs.eq_of_length e, patL_self hp]
  obtain ⟨i, hi, hsi⟩ := short_cut hs hl
  have hq : patL (cutAt p i) ∈ lowR p := (low_mem hp).2 ⟨i, hi, rfl⟩
  refine ⟨_, hq, (hasO_iff (low_all hq) hb).2 ⟨s.map fun v => 1 + (cnt (cutAt p i) v : Int), ?_, ?_⟩⟩
  · unfold patL
    exact hsi.map _
  · rw [← hsb]
    refine patL_alike ⟨by simp, fun a c ha hc => ?_⟩
    rw [List.length_map] at ha hc
    have e : ∀ k, k < s.length → at0 (s.map fun v => 1 + (cnt (cutAt p i) v : Int)) k = 1 + (cnt (cutAt p i) (at0 s k) : Int) := fun k hk => at0_of (by rw [List.getElem?_map, at0_some hk]; rfl)
    rw [e a ha, e c hc, cnt_iff (l := cutAt p i) (hsi.subset (at0_mem ha))]
    omega
theorem avo_not {L : List (List Int)} {p : List Int} (h : avo L p = false) : ∃ b ∈ L, hasO p b = true := by
  apply Classical.byContradiction
  intro hno
  have : avo L p = true := avo_yes.2 fun q hq => by
    cases h3 : hasO p q with
    | false => rfl
    | true => exact (hno ⟨q, hq, h3⟩).elim
  rw [h] at this; cases this
theorem avo_low {L : List (List Int)} {p q : List Int} (hL : ∀ b ∈ L, isP b = true) (hp : isP p = true) (ha : avo L p = true) (hq : q ∈ lowR p) : avo L q = true := by
  cases h : avo L q with
  | true => rfl
  | false =>
    obtain ⟨b, hb, hh⟩ := avo_not h
    have := has_low hp (hL b hb) hq hh
    rw [avo_yes.1 ha b hb] at this; cases this
/-- A class has every pattern of its permutations. -/
theorem inC_low {L : List (List Int)} {p q : List Int} (h : inC L p = true) (hq : q ∈ lowR p) : inC L q = true := by
  unfold inC at h ⊢
  simp only [Bool.and_eq_true] at h ⊢
  exact ⟨⟨h.1.1, low_all hq⟩, avo_low (fun b hb => (basis_isP h.1.1 b hb).1) h.1.2 h.2 hq⟩
theorem basis_at {L : List (List Int)} (h : basis L = true) {k : Nat} (hk : k < L.length) : basAt L k = true := by
  unfold basis at h
  simp only [Bool.and_eq_true] at h
  exact List.all_eq_true.1 h.1 k (List.mem_range.2 hk)
theorem basis_step {L : List (List Int)} (h : basis L = true) {k : Nat} (hk : k + 1 < L.length) : befL L[k] L[k + 1] = true := by
  have h1 := basis_at h hk
  rw [basAt_at (List.getElem?_eq_getElem hk)] at h1
  simp only [Bool.and_eq_true, Bool.or_eq_true, decide_eq_true_eq] at h1
  rcases h1.1.2 with h2 | h2
  · omega
  · rwa [Nat.add_sub_cancel, getD_row (List.getElem?_eq_getElem (show k < L.length by omega))] at h2
theorem basis_asc {L : List (List Int)} (h : basis L = true) : Asc L := by
  unfold Asc
  rw [List.pairwise_iff_getElem]
  intro i j hi hj hij
  induction j with
  | zero => omega
  | succ j ih =>
    by_cases e : i = j
    · subst e; exact basis_step h hj
    · exact befL_trans (ih (by omega) (by omega)) (basis_step h hj)
theorem befL_len {x y : List Int} (h : befL x y = true) : x.length ≤ y.length := by
  by_cases e : x.length = y.length
  · omega
  · rw [befL_ne e] at h
    have := of_decide_eq_true h
    omega
theorem basis_apart {L : List (List Int)} (h : basis L = true) {b p : List Int} (hb : b ∈ L) (hp : p ∈ L) (hh : hasO p b = true) : b = p := by
  obtain ⟨i, hi, rfl⟩ := List.getElem_of_mem hb
  obtain ⟨k, hk, rfl⟩ := List.getElem_of_mem hp
  have hip := (basis_isP h _ (List.getElem_mem hi)).1
  have hkp := (basis_isP h _ (List.getElem_mem hk)).1
  have hl := hasO_len hkp hip hh
  rcases Nat.lt_trichotomy i k with hlt | heq | hgt
  · have h1 := basis_at h hk
    rw [basAt_at (List.getElem?_eq_getElem hk)] at h1
    simp only [Bool.and_eq_true] at h1
    have h2 : L[i] ∈ L.take k := List.mem_of_getElem? (i := i) (by rw [List.getElem?_take_of_lt hlt]; exact List.getElem?_eq_getElem hi)
    rw [avo_yes.1 h1.2 _ h2] at hh; cases hh
  · subst heq; rfl
  · have h1 := basis_asc h
    unfold Asc at h1
    have h2 := befL_len (List.pairwise_iff_getElem.1 h1 k i hk hi hgt)
    exact hl.2 (by omega)
/-- The permutations of the class up to a length. -/
def allC (L : List (List Int)) (n : Nat) : List (List Int) := (List.range (n + 1)).flatMap (clsN L)
def dn1 (f x : Int) : Int := if f < x then x - 1 else x
theorem perm_all : ∀ (n : Nat) (p : List Int), p.length = n → isP p = true → p ∈ permL n
  | 0, p, hl, _ => by
    obtain rfl := List.eq_nil_of_length_eq_zero hl
    simp [permL]
  | n + 1, [], hl, _ => by simp at hl
  | n + 1, f :: t, hl, hp => by
    have h := isP_true.1 hp
    rw [List.length_cons, Nat.add_right_cancel_iff] at hl
    have hnd := List.nodup_cons.1 h.2.2
    have hne : ∀ x ∈ t, x ≠ f := fun x hx e => hnd.1 (by rw [← e]; exact hx)
    have hr : ∀ x ∈ f :: t, 1 ≤ x ∧ x ≤ (n : Int) + 1 := fun x hx => by have := h.2.1 x hx; rw [List.length_cons, hl] at this; omega
    have hf := hr f (by simp)
    have hup : ∀ x ∈ t, up f (dn1 f x) = x := fun x hx => by have := hne x hx; unfold up dn1; split <;> split <;> omega
    have hrp : isP (t.map (dn1 f)) = true := by
      refine isP_true.2 ⟨by rw [List.length_map]; have := h.1; rw [List.length_cons] at this; omega, fun x hx => ?_, ?_⟩
      · obtain ⟨y, hy, rfl⟩ := List.mem_map.1 hx
        have h1 := hr y (by simp [hy])
        have h2 := hne y hy
        rw [List.length_map, hl]
        unfold dn1
        split <;> omega
      · rw [List.nodup_iff_pairwise_ne, List.pairwise_map]
        refine List.Pairwise.imp_of_mem (fun {a b} ha hb hab e => ?_) (List.nodup_iff_pairwise_ne.1 hnd.2)
        have h1 := hup a ha
        rw [e, hup b hb] at h1
        exact hab h1.symm
    have ih := perm_all n (t.map (dn1 f)) (by rw [List.length_map]; exact hl) hrp
    rw [permL]
    refine List.mem_flatMap.2 ⟨f, mem_upTo.2 ⟨hf.1, by have := hf.2; omega⟩, List.mem_map.2 ⟨_, ih, ?_⟩⟩
    unfold behind
    rw [List.map_map]
    congr 1
    conv => rhs; rw [← List.map_id t]
    exact List.map_congr_left fun x hx => hup x hx
theorem mem_clsN {L : List (List Int)} {k : Nat} (hk : k ≤ 6) {x : List Int} : x ∈ clsN L k ↔ isP x = true ∧ x.length = k ∧ avo L x = true := by
  unfold clsN
  rw [List.mem_filter]
  constructor
  · rintro ⟨h1, h2⟩
    have := permL_mem k hk x h1
    exact ⟨this.1, this.2, h2⟩
  · rintro ⟨h1, h2, h3⟩
    exact ⟨perm_all k x h2 h1, h3⟩
theorem mem_all {L : List (List Int)} {n : Nat} (hn : n ≤ 6) {x : List Int} : x ∈ allC L n ↔ isP x = true ∧ x.length ≤ n ∧ avo L x = true := by
  unfold allC
  rw [List.mem_flatMap]
  constructor
  · rintro ⟨k, hk, hx⟩
    have hk := List.mem_range.1 hk
    have := (mem_clsN (by omega)).1 hx
    exact ⟨this.1, by omega, this.2.2⟩
  · rintro ⟨h1, h2, h3⟩
    exact ⟨x.length, List.mem_range.2 (by omega), (mem_clsN (by omega)).2 ⟨h1, rfl, h3⟩⟩
theorem allC_P {L : List (List Int)} {n : Nat} (hn : n ≤ 6) : allP (allC L n) = true := allP_yes fun _ hz => ((mem_all hn).1 hz).1
/-- The basis is told by its class. -/
theorem fine_all {L : List (List Int)} (h : basis L = true) {n : Nat} (hn : n ≤ 6) {p : List Int} (hp : isP p = true) (hpn : p.length ≤ n) : fineU (allC L n) p = decide (p ∈ L) := by
  have hL := fun b hb => (basis_isP h b hb).1
  rw [Bool.eq_iff_iff]
  unfold fineU
  simp only [Bool.and_eq_true, Bool.not_eq_true', decide_eq_false_iff_not, decide_eq_true_eq, List.all_eq_true]
  constructor
  · rintro ⟨h1, h2⟩
    have ha : avo L p = false := by
      cases ha : avo L p with
      | false => rfl
      | true => exact (h1 ((mem_all hn).2 ⟨hp, hpn, ha⟩)).elim
    obtain ⟨b, hb, hh⟩ := avo_not ha
    by_cases e : b = p
    · rw [← e]; exact hb
    · obtain ⟨q, hq, hqb⟩ := low_has hp (hL b hb) hh e
      have h3 := h2 q hq
      unfold okL at h3
      simp only [Bool.or_eq_true, decide_eq_true_eq] at h3
      rcases h3 with h3 | h3
      · have h4 := (hasO_len (low_all hq) (hL b hb) hqb).1
        exact absurd (Nat.le_zero.1 (by omega)) (basis_isP h b hb).2
      · rw [avo_yes.1 ((mem_all hn).1 h3).2.2 b hb] at hqb
        cases hqb
  · intro hpL
    refine ⟨fun hall => ?_, fun q hq => ?_⟩
    · have h1 := ((mem_all hn).1 hall).2.2
      have h2 := hasO_self hp
      rw [avo_yes.1 h1 p hpL] at h2; cases h2
    · unfold okL
      simp only [Bool.or_eq_true, decide_eq_true_eq]
      right
      refine (mem_all hn).2 ⟨low_all hq, by have := low_len hp hq; omega, avo_yes.2 fun b hb => ?_⟩
      cases hh : hasO q b with
      | false => rfl
      | true =>
        have h1 := basis_apart h hb hpL (has_low hp (hL b hb) hq hh)
        have h2 := (hasO_len (low_all hq) (hL b hb) hh).1
        have h3 := low_len hp hq
        rw [h1] at h2
        omega
def chainB : List (List Int) → Bool
  | a :: b :: r => befL a b && chainB (b :: r)
  | _ => true
theorem chain_head : ∀ {l : List (List Int)} {a : List Int}, chainB (a :: l) = true → ∀ b ∈ l, befL a b = true
  | [], _, _, _, hb => by cases hb
  | c :: l, a, h, b, hb => by
    rw [chainB, Bool.and_eq_true] at h
    rcases List.mem_cons.1 hb with rfl | hb
    · exact h.1
    · exact befL_trans h.1 (chain_head h.2 b hb)
theorem chain_asc : ∀ {l : List (List Int)}, chainB l = true → Asc l
  | [], _ => List.Pairwise.nil
  | [a], _ => List.pairwise_singleton _ _
  | a :: b :: l, h => by
    have h1 := h
    rw [chainB, Bool.and_eq_true] at h1
    exact List.Pairwise.cons (fun x hx => chain_head h x hx) (chain_asc h1.2)
theorem permL_chain : ∀ k : Nat, k ≤ 6 → chainB (permL k) = true := by decide +kernel
theorem permL_asc (k : Nat) (hk : k ≤ 6) : (permL k).Pairwise fun a b => befL a b = true := chain_asc (permL_chain k hk)
theorem buK_mem {L : List (List Int)} {x : List Int} : ∀ {k : Nat}, k ≤ 6 → (x ∈ buK L k ↔ isP x = true ∧ 1 ≤ x.length ∧ x.length ≤ k ∧ fineU L x = true)
  | 0, _ => by
    rw [buK]
    constructor
    · intro h; cases h
    · rintro ⟨_, h1, h2, _⟩; omega
  | k + 1, hk => by
    rw [buK, List.mem_append, buK_mem (by omega), List.mem_filter]
    constructor
    · rintro (⟨h1, h2, h3, h4⟩ | ⟨h1, h2⟩)
      · exact ⟨h1, h2, by omega, h4⟩
      · have := permL_mem (k + 1) hk x h1
        exact ⟨this.1, by omega, by omega, h2⟩
    · rintro ⟨h1, h2, h3, h4⟩
      by_cases e : x.length ≤ k
      · exact .inl ⟨h1, h2, e, h4⟩
      · exact .inr ⟨perm_all (k + 1) x (by omega) h1, h4⟩
theorem buK_asc (L : List (List Int)) : ∀ k : Nat, k ≤ 6 → Asc (buK L k)
  | 0, _ => List.Pairwise.nil
  | k + 1, hk => by
    unfold Asc
    rw [buK, List.pairwise_append]
    refine ⟨buK_asc L k (by omega), (permL_asc (k + 1) hk).filter _, fun a ha b hb => ?_⟩
    have h1 := ((buK_mem (by omega)).1 ha).2.2.1
    have h2 := (permL_mem (k + 1) hk b (List.mem_filter.1 hb).1).2
    rw [befL_ne (by omega)]
    exact decide_eq_true (by omega)
/-- The basis is found again. -/
theorem basis_again {L : List (List Int)} (h : basis L = true) {n : Nat} (hn : n ≤ 6) : buR (allC L n) (n : Int) = L.filter fun z => decide (z.length ≤ n) := by
  rw [buR_yes (allC_P hn) hn]
  refine asc_unique (buK_asc _ n hn) ?_ fun x => ?_
  · have h1 := basis_asc h
    unfold Asc at h1 ⊢
    exact h1.filter _
  · rw [buK_mem hn, List.mem_filter, decide_eq_true_eq]
    constructor
    · rintro ⟨h1, _, h3, h4⟩
      rw [fine_all h hn h1 h3] at h4
      exact ⟨of_decide_eq_true h4, h3⟩
    · rintro ⟨h1, h2⟩
      have h3 := basis_isP h x h1
      exact ⟨h3.1, by have := h3.2; omega, h2, by rw [fine_all h hn h3.1 h2]; exact decide_eq_true h1⟩
end Go.Proofs.YtoiipedomgefaaaGreatDoor


/-
  spec.l12Next, by its contract.
-/

namespace Go.Proofs.YtoiipedomgefaaaGreatDoor
set_option maxRecDepth 100000
open Go.RowKit

theorem keep_low2 {B : Nat} {wr w : World} {p q : Addr} {u v : Value} (h1 : wr.cell? p = some u) (h2 : wr.cell? q = some v) (l1 : p.block < B) (l2 : q.block < B) (hb : Below B wr w) : w.cell? p = some u ∧ w.cell? q = some v ∧ Below B wr w := ⟨(hb.cell l1).trans h1, (hb.cell l2).trans h2, hb⟩
/-- The next level, its first k rows whole. -/
def nxtK (L : List (List Int)) (zl : List (List Int)) (K k : Nat) : List (List Int) := (zl.take k).flatMap fun z => (nxAll K z).filter (avo L)
theorem nxtK_zero (L zl : List (List Int)) (K : Nat) : nxtK L zl K 0 = [] := by simp [nxtK]
theorem nxtK_step {L zl : List (List Int)} {K k : Nat} {z : List Int} (h : zl[k]? = some z) : nxtK L zl K (k + 1) = nxtK L zl K k ++ sift (avo L) (nxAll K z) K := by
  unfold nxtK
  rw [List.take_add_one, h, List.flatMap_append]
  unfold sift
  rw [show (nxAll K z).take K = nxAll K z from List.take_of_length_le (by simp [nxAll])]
  simp
theorem nxtK_le (L zl : List (List Int)) (K : Nat) : ∀ k, (nxtK L zl K k).length ≤ k * K
  | 0 => by rw [nxtK_zero]; simp
  | k + 1 => by
    have ih := nxtK_le L zl K k
    by_cases hk : k < zl.length
    · rw [nxtK_step (List.getElem?_eq_getElem hk), List.length_append, Nat.add_mul]
      have := sift_le (avo L) (nxAll K zl[k]) K
      omega
    · have e : nxtK L zl K (k + 1) = nxtK L zl K k := by unfold nxtK; rw [List.take_of_length_le (by omega), List.take_of_length_le (by omega)]
      rw [e]
      exact Nat.le_trans ih (Nat.mul_le_mul_right _ (by omega))
theorem nxAll_at {K m : Nat} {z : List Int} (h : m < K) : (nxAll K z)[m]? = some (nxP z ((m : Int) + 1)) := by unfold nxAll; rw [List.getElem?_map, List.getElem?_range h]; rfl
theorem map_up_step {z : List Int} {v x : Int} {i : Nat} (h : z[i]? = some x) : (z.map (up v)).take i ++ [up v x] = (z.map (up v)).take (i + 1) := (take_snoc_i (by rw [List.getElem?_map, h]; rfl)).symm
set_option maxHeartbeats 1600000 in
theorem snx_any (A A2 : Option Addr) (n c B n2 c2 B2 K : Nat) (zss zl : List (List Int)) (w : World) (hS : IntsS w B (.slice A n c) zss) (hT : IntsS w B2 (.slice A2 n2 c2) zl) (hn : n ≤ 1048576) (hn2 : n2 ≤ 720) (hK : 1 ≤ K ∧ K ≤ 6)
    (hz : ∀ z ∈ zss, isP z = true) (hl : ∀ z ∈ zl, isP z = true ∧ z.length + 1 = K) :
    Calls Tryz.prog 120 #[.slice A n c, .slice A2 n2 c2, .int .i64 K] w (GivesSS w (nxtK zss zl K n2)) := by
  obtain ⟨i0, hi, hz0, hz1, hz2⟩ := info_parts intInfo
  obtain ⟨hK1, hK6⟩ := hK
  have hst := IntsS.made0 w w.heap.size (Nat.le_refl _)
  have hbel := (Below.refl w.heap.size w).alloc (Nat.le_refl _) (.cells #[] 36)
  have HA := hide (⟨hS, hT, hz, hl⟩ : IntsS w B (.slice A n c) zss ∧ IntsS w B2 (.slice A2 n2 c2) zl ∧ (∀ z ∈ zss, isP z = true) ∧ ∀ z ∈ zl, isP z = true ∧ z.length + 1 = K)
  have HL := hide hT.len
  clear hS hT hz hl
  go_enter Tryz.func120, Tryz.ntmps120
  go_wp2
  go_loopw [7, 8, 9, 10, 11] (fun ov kv _ _ _ wr => ∃ k : Nat, k ≤ n2 ∧ kv = .int .i64 k ∧ Below w.heap.size w wr ∧ IntsS wr w.heap.size ov (nxtK zss zl K k)) (fun _ kv _ _ _ _ => n2 - (intOf kv).toNat)
  case atStart => exact ⟨0, Nat.zero_le _, rfl, hbel, by rw [nxtK_zero]; exact hst⟩
  case round =>
    obtain ⟨k, hk, rfl, hb, ho⟩ := hrel
    clear hst hbel
    by_cases hlt : k < n2
    · have hkz : k < zl.length := by rw [unhide HL]; exact hlt
      obtain ⟨z, hzk⟩ : ∃ z, zl[k]? = some z := ⟨_, List.getElem?_eq_getElem hkz⟩
      obtain ⟨hzp, hzl⟩ := (unhide HA).2.2.2 z (List.mem_of_getElem? hzk)
      have HZ := hide (⟨hzk, hzp⟩ : _ ∧ _)
      have HST := hide (nxtK_step (L := zss) (K := K) hzk)
      have hle := nxtK_le zss zl K k
      have hkK : k * K ≤ 4320 := Nat.mul_le_mul (show k ≤ 720 by omega) hK6
      obtain ⟨P, hP⟩ : ∃ P, P = nxtK zss zl K k := ⟨_, rfl⟩
      rw [← hP] at ho HST hle
      have ho0 : IntsS wr w.heap.size u7 (P ++ sift (avo zss) (nxAll K z) 0) := by unfold sift; rw [List.take_zero]; simpa using ho
      have hPl : P.length ≤ 4320 := by omega
      clear hzk hzp ho hle hkK hP hkz
      obtain ⟨wo, hwo⟩ : ∃ wo : World, wo = wr := ⟨_, rfl⟩
      go_wp2
      go_loopw [7, 9, 10, 11] (fun ov vv _ _ wi => ∃ m : Nat, m ≤ K ∧ vv = .int .i64 ((m : Int) + 1) ∧ Below w.heap.size w wi ∧ IntsS wi w.heap.size ov (P ++ sift (avo zss) (nxAll K z) m)) (fun _ vv _ _ _ => K + 1 - (intOf vv).toNat)
      case atStart => exact ⟨0, Nat.zero_le _, rfl, hb, ho0⟩
      case round =>
        obtain ⟨m, hm, rfl, hbm, hom⟩ := hrel
        clear hb ho0 hwo
        have hsl := sift_le (avo zss) (nxAll K z) m
        by_cases hmK : m < K
        · have hmK2 : (m : Int) + 1 ≤ (K : Int) := by omega
          obtain ⟨wm, hwm⟩ : ∃ wm : World, wm = wr := ⟨_, rfl⟩
          rw [← hwm] at hbm hom ⊢
          have hT := (unhide HA).2.1.below hbm
          obtain ⟨ad, A6, c6, z', rfl, hz', hcell, hI⟩ := hT.at_ hlt
          obtain rfl : z = z' := Option.some.inj ((unhide HZ).1.symm.trans hz')
          have hAz := hI.argP (unhide HZ).2
          have hlc := World.block_lt_of_cell? wm _ hcell
          obtain ⟨lz, hlz⟩ : ∃ l, l = z.length := ⟨_, rfl⟩
          rw [← hlz] at hcell hAz hzl
          have HLZ := hide hlz
          have hp0 := own0 wm wm.heap.size (Nat.le_refl _)
          have hbp0 := (Below.refl wm.heap.size wm).alloc (Nat.le_refl _) (.cells #[] 3)
          have HOM := hide (⟨hbm, hom⟩ : _ ∧ _)
          clear hT hz' hI hlz hbm hom hwm
          go_wp2
          go_loopw [10, 11] (fun pv iv wi => ∃ i : Nat, i ≤ lz ∧ iv = .int .i64 i ∧ Below wm.heap.size wm wi ∧ wi.ownsRow wm.heap.size 3 1 pv i (i64s ((z.map (up ((m : Int) + 1))).take i))) (fun _ iv _ => lz - (intOf iv).toNat)
          case atStart => exact ⟨0, Nat.zero_le _, rfl, hbp0, hp0⟩
          case round =>
            obtain ⟨i, hi', rfl, hbi, hown⟩ := hrel
            clear hp0 hbp0
            have hcl := (hbi.cell hlc).trans hcell
            by_cases hil : i < lz
            · obtain ⟨az, u, rfl, haz, hu, hc⟩ := (hAz.below hbi).reads.at_ hil
              obtain ⟨x, hx, rfl⟩ := i64_at hu
              have hxr := isP_range (unhide HZ).2 hx
              have hx1 : 1 ≤ x := hxr.1
              have hx8 : x ≤ 8 := by have := hxr.2; have := unhide HLZ; omega
              have HE := hide (map_up_step (v := (m : Int) + 1) hx)
              have hin2 : (i : Int) < (lz : Int) := by omega
              have hblk2 : (az.add i).block < wm.heap.size := by rw [block_of_add]; exact haz
              clear hu hx hxr
              by_cases hvx : (m : Int) + 1 ≤ x
              · have hup : up ((m : Int) + 1) x = x + 1 := by unfold up; rw [if_pos hvx]
                rw [hup] at HE
                have hd : decide ((m : Int) + 1 ≤ x) = true := decide_eq_true hvx
                have hw1 : IntKind.i64.wrap (x + 1) = x + 1 := by rw [IntKind.wrap_i64]; omega
                clear hup
                go_wp2
                have hb0 := Below.refl wm.heap.size wr
                have hsz := hbi.size
                go_region_held3 (fun w' => w'.cell? (ad.add k) = some (.slice (some az) lz c6) ∧ w'.cell? (az.add i) = some (.int .i64 x) ∧ Below wm.heap.size wr w') ((refine keep_low2 hcl hc hlc hblk2 ?_; first | assumption | (apply Below.drew; assumption) | exact (hb0.alloc (by omega) _).drew))
                  (first
                    | (go_simp; go_at_call 49; refine (bit_true _).mono ?_; rintro e w' ⟨rfl, rfl⟩)
                    | (refine step_append_one (by rfl) (.tmp 34) (.tmp 53) (by rfl) wm.heap.size i wr wr _ _ (x + 1) (by rfl) (by rfl) (by rfl) hown (by omega) (by omega) hb0 hsz ?_; intro v2 w2 hown2 hb2))
                have hb3 := hbi.trans hb2
                rw [unhide HE] at hown2
                clear hown hbi HE hb0 hb2 hc hcl hd hw1
                go_wp2
                go_roundw
                case rel => exact ⟨i + 1, by omega, by go_num, hb3, hown2⟩
                case measure => simp [intOf]; omega
              · have hup : up ((m : Int) + 1) x = x := by unfold up; rw [if_neg hvx]
                rw [hup] at HE
                have hd : decide ((m : Int) + 1 ≤ x) = false := decide_eq_false hvx
                have hw1 : IntKind.i64.wrap x = x := by rw [IntKind.wrap_i64]; omega
                clear hup
                go_wp2
                have hb0 := Below.refl wm.heap.size wr
                have hsz := hbi.size
                go_region_held3 (fun w' => w'.cell? (ad.add k) = some (.slice (some az) lz c6) ∧ w'.cell? (az.add i) = some (.int .i64 x) ∧ Below wm.heap.size wr w') ((refine keep_low2 hcl hc hlc hblk2 ?_; first | assumption | (apply Below.drew; assumption) | exact (hb0.alloc (by omega) _).drew))
                  (first
                    | (go_simp; go_at_call 49; refine (bit_false _).mono ?_; rintro e w' ⟨rfl, rfl⟩)
                    | (refine step_append_one (by rfl) (.tmp 34) (.tmp 53) (by rfl) wm.heap.size i wr wr _ _ x (by rfl) (by rfl) (by rfl) hown (by omega) (by omega) hb0 hsz ?_; intro v2 w2 hown2 hb2))
                have hb3 := hbi.trans hb2
                rw [unhide HE] at hown2
                clear hown hbi HE hb0 hb2 hc hcl hd hw1
                go_wp2
                go_roundw
                case rel => exact ⟨i + 1, by omega, by go_num, hb3, hown2⟩
                case measure => simp [intOf]; omega
            · obtain rfl : lz = i := by omega
              have hml : (z.map (up ((m : Int) + 1))).take lz = z.map (up ((m : Int) + 1)) := List.take_of_length_le (by rw [List.length_map, ← unhide HLZ]; exact Nat.le_refl _)
              rw [hml] at hown
              have e : i64s (z.map (up ((m : Int) + 1))) ++ [.int .i64 ((m : Int) + 1)] = i64s (nxP z ((m : Int) + 1)) := by unfold nxP i64s; simp
              have HE := hide e
              have hnp := nx_isP (z := z) (v := (m : Int) + 1) (unhide HZ).2 (by rw [← unhide HLZ]; omega) (by rw [← unhide HLZ]; omega)
              have HNP := hide hnp
              have HAT := hide (nxAll_at (K := K) (z := z) hmK)
              obtain ⟨x, hx⟩ : ∃ x, x = nxP z ((m : Int) + 1) := ⟨_, rfl⟩
              rw [← hx] at HE HNP HAT
              have HXL := hide (show x.length = lz + 1 by rw [hx, nxP_length, unhide HLZ])
              clear hml e hnp hx
              go_wp2_with (first
                | (at_builtin; refine wpList_append_one rfl (.tmp 55) (.tmp 57) 36 rfl wm.heap.size 3 i0 (.int .i64 0) 8 Tryz.underlying36 hi hz0 hz1 hz2 rfl wm wr _ _ _ rfl hown (.int .i64 ((m : Int) + 1)) rfl rfl rfl (by omega) (by simp only [maxLen]; omega) hbi hbi.size ?_; intro v2 w2 hown2 hb2 hg2; clear hg2))
              rw [unhide HE] at hown2
              have hI2 : Ints w2 wm.heap.size v2 x := Ints.of_own hown2
              clear hown hown2 hcl hbi
              obtain ⟨A7, c7, rfl⟩ := hI2.slice
              have hbw := (unhide HOM).1.trans (hb2.mono (unhide HOM).1.size)
              have H4 := hide (savo_any A A7 n c B x.length c7 _ zss x w2 ((unhide HA).1.below hbw) (hI2.argP (unhide HNP)) (unhide HNP) (unhide HA).2.2.1 hn)
              obtain ⟨b, hbb⟩ : ∃ b, avo zss x = b := ⟨_, rfl⟩
              rw [hbb] at H4
              have HI2 := hide hI2
              clear hI2 hbw
              go_wp2_with fail
              refine (unhide H4).mono ?_
              rintro e w3 ⟨rfl, d3⟩
              have hb3 := hb2.trans (d3.mono hb2.size)
              have hbw := (unhide HOM).1.trans (hb3.mono (unhide HOM).1.size)
              have hI3 := (unhide HI2).below d3
              clear H4 HI2 d3 hb2
              cases b with
              | true =>
                have HS := hide (sift_yes (unhide HAT) hbb)
                clear hbb
                have ho3 := (unhide HOM).2
                have hlen : (P ++ sift (avo zss) (nxAll K z) m).length ≤ 1048576 := by rw [List.length_append]; omega
                go_wp2_with (first
                  | (at_builtin; refine wpList_push_row rfl (.tmp 62) (.tmp 64) rfl w.heap.size w wm w3 _ (.slice A7 x.length c7) _ x rfl rfl rfl ho3 hb3 hI3 hlen hbw (unhide HOM).1.size ?_; intro v4 w4 hS4 hb4))
                rw [List.append_assoc, ← unhide HS] at hS4
                clear ho3 hI3 hb3 hbw hlen
                go_roundw
                case rel => exact ⟨m + 1, by omega, by go_num, hb4, hS4⟩
                case measure => simp [intOf]; omega
              | false =>
                have HS := hide (sift_no (unhide HAT) hbb)
                have ho3 := (unhide HOM).2.below hb3
                rw [← unhide HS] at ho3
                clear hbb hI3 hb3
                go_wp2
                go_roundw
                case rel => exact ⟨m + 1, by omega, by go_num, hbw, ho3⟩
                case measure => simp [intOf]; omega
        · obtain rfl : m = K := by omega
          have hmK2 : ¬ ((m : Int) + 1 ≤ (m : Int)) := by omega
          rw [← unhide HST] at hom
          clear HST
          go_wp2
          go_roundw
          case rel => exact ⟨k + 1, by omega, by go_num, hbm, hom⟩
          case measure => simp [intOf]; omega
    · obtain rfl : n2 = k := by omega
      have HO := hide ho
      clear ho
      go_wp2
      go_ret
      exact GivesSS.mk (unhide HO) hb
end Go.Proofs.YtoiipedomgefaaaGreatDoor


/-
  spec.l12Class and spec.ClassCounts, by their contracts.
-/

namespace Go.Proofs.YtoiipedomgefaaaGreatDoor
set_option maxRecDepth 100000
open Go.RowKit

theorem listsInfo : (Tryz.prog.info? 24).map (fun i => (i.zero, i.size, i.bytes)) = some (some (.slice none 0 0), 1, 24) := by kernel_rfl
/-- A change of one older block. -/
theorem IntsS.off {w w' : World} {B cb : Nat} {v : Value} {zss : List (List Int)} (h : IntsS w B v zss) (hg : w.grownBy w' (some cb)) (hc : cb < B) : IntsS w' B v zss := by
  obtain ⟨vs, h1, h2⟩ := h
  refine ⟨vs, h1.kept hg ?_, ⟨h2.len, fun i u z hu hz => ?_, h2.away⟩⟩
  · cases hv : v.ownBlock with
    | none => exact .inl rfl
    | some g => exact .inr fun e => by have := (h1.lt g hv).1; injection e with e; omega
  · have hr := h2.row i u z hu hz
    refine Row.kept hr hg ?_
    cases hv : u.ownBlock with
    | none => exact .inl rfl
    | some g => exact .inr fun e => by have := (Row.lt hr g hv).1; injection e with e; omega
/-- Rows of two types lie apart. -/
theorem own_types {w : World} {B B' n m : Nat} {e e' : TypeId} {u v : Value} {xs ys : List Value} (h : w.ownsRow B e 1 v n xs) (k : w.ownsRow B' e' 1 u m ys) (hne : e ≠ e') : v.ownBlock = none ∨ v.ownBlock ≠ u.ownBlock := by
  rcases h.2 with ⟨rfl, _⟩ | ⟨g, cap, cur, rfl, _, hg, _⟩
  · exact .inl rfl
  · refine .inr fun he => ?_
    rcases k.2 with ⟨rfl, _⟩ | ⟨g', cap', cur', rfl, _, hg', _⟩
    · simp [Value.ownBlock] at he
    · simp [Value.ownBlock] at he
      subst he
      rw [hg] at hg'
      injection hg' with hg'
      injection hg' with _ h2
      exact hne h2
theorem nxtK_lev (L : List (List Int)) (k : Nat) : nxtK L (lev L k) (k + 1) (lev L k).length = lev L (k + 1) := by unfold nxtK; rw [List.take_length]; rfl
/-- A list of lists of rows: how long each is. -/
def Heads (w : World) (B : Nat) (v : Value) (n : Nat) (f : Nat → Nat) : Prop := ∃ us : List Value, w.ownsRow B 24 1 v n us ∧ ∀ k, k < n → ∃ A c, us[k]? = some (.slice A (f k) c)
theorem Heads.below {w w' : World} {B n : Nat} {v : Value} {f : Nat → Nat} (h : Heads w B v n f) (hb : Below w.heap.size w w') : Heads w' B v n f := by
  obtain ⟨us, h1, h2⟩ := h
  exact ⟨us, own_below h1 hb, h2⟩
/-- The lengths of the levels. -/
def cntsN (L : List (List Int)) (k : Nat) : List Int := (List.range k).map fun j => ((clsN L j).length : Int)
theorem cntsN_step (L : List (List Int)) (k : Nat) : cntsN L (k + 1) = cntsN L k ++ [((clsN L k).length : Int)] := by unfold cntsN; rw [List.range_succ, List.map_append]; rfl
theorem cntsN_length (L : List (List Int)) (k : Nat) : (cntsN L k).length = k := by simp [cntsN]
def cntsR (L : List (List Int)) (m : Int) : List Int := if basis L = true ∧ 0 ≤ m ∧ m ≤ 6 then cntsN L (m.toNat + 1) else []
theorem cntsR_no {L : List (List Int)} {m : Int} (h : ¬ (basis L = true ∧ 0 ≤ m ∧ m ≤ 6)) : cntsR L m = [] := by unfold cntsR; rw [if_neg h]
theorem cntsR_yes {L : List (List Int)} {k : Nat} (h : basis L = true) (hk : k ≤ 6) : cntsR L (k : Int) = cntsN L (k + 1) := by unfold cntsR; rw [if_pos ⟨h, by omega, by omega⟩, Int.toNat_natCast]
theorem cntsR_le (L : List (List Int)) (m : Int) : (cntsR L m).length ≤ 7 := by
  by_cases h : basis L = true ∧ 0 ≤ m ∧ m ≤ 6
  · unfold cntsR; rw [if_pos h, cntsN_length]; omega
  · rw [cntsR_no h]; simp
set_option maxHeartbeats 1600000 in
theorem slev_any (A : Option Addr) (n c B m : Nat) (zss : List (List Int)) (w : World) (hS : IntsS w B (.slice A n c) zss) (hn : n ≤ 1048576) (hm : m ≤ 6) (hbas : basis zss = true) :
    Calls Tryz.prog 74 #[.slice A n c, .int .i64 m] w fun e w' => ∃ v, e = .returned v ∧ Heads w' w.heap.size v (m + 1) (fun k => (clsN zss k).length) ∧ Below w.heap.size w w' := by
  obtain ⟨i1, hi, hz0, hz1, hz2⟩ := info_parts listsInfo
  have HA := hide (⟨hS, hbas⟩ : IntsS w B (.slice A n c) zss ∧ basis zss = true)
  have hI0 := Ints.made0 w w.heap.size (Nat.le_refl _)
  have hb1 := (Below.refl w.heap.size w).alloc (Nat.le_refl _) (.cells #[] 3)
  have hb2 := hb1.alloc (by simp) (.cells #[.slice (some ⟨w.heap.size, 0, none⟩) 0 0] 36)
  have hb3 := hb2.alloc (by simp; omega) (.cells #[.slice (some ⟨w.heap.size + 1, 0, none⟩) 1 1] 24)
  have hl1 : IntsS ((w.alloc (.cells #[] 3)).alloc (.cells #[.slice (some ⟨w.heap.size, 0, none⟩) 0 0] 36)) w.heap.size (.slice (some ⟨w.heap.size + 1, 0, none⟩) 1 1) [[]] := by
    refine ⟨[.slice (some ⟨w.heap.size, 0, none⟩) 0 0], ⟨rfl, .inr ⟨w.heap.size + 1, 1, #[.slice (some ⟨w.heap.size, 0, none⟩) 0 0], rfl, by omega, ?_, Nat.le_refl _, by unfold maxLen; omega, rfl, rfl⟩⟩, ⟨rfl, fun i u z hu hz => ?_, by simp⟩⟩
    · have h := heap_alloc_new (w.alloc (.cells #[] 3)) (.cells #[.slice (some ⟨w.heap.size, 0, none⟩) 0 0] 36)
      simpa using h
    · match i, hu, hz with
      | 0, hu, hz =>
        simp at hu hz
        subst hu; subst hz
        exact hI0.below ((Below.refl _ _).alloc (Nat.le_refl _) _)
  have hl2 := hl1.below ((Below.refl _ _).alloc (Nat.le_refl _) (.cells #[.slice (some ⟨w.heap.size + 1, 0, none⟩) 1 1] 24))
  have ho2 : Heads (((w.alloc (.cells #[] 3)).alloc (.cells #[.slice (some ⟨w.heap.size, 0, none⟩) 0 0] 36)).alloc (.cells #[.slice (some ⟨w.heap.size + 1, 0, none⟩) 1 1] 24)) w.heap.size (.slice (some ⟨w.heap.size + 1 + 1, 0, none⟩) 1 1) 1 (fun k => (clsN zss k).length) := by
    refine ⟨[.slice (some ⟨w.heap.size + 1, 0, none⟩) 1 1], ⟨rfl, .inr ⟨w.heap.size + 1 + 1, 1, #[.slice (some ⟨w.heap.size + 1, 0, none⟩) 1 1], rfl, by omega, ?_, Nat.le_refl _, by unfold maxLen; omega, rfl, rfl⟩⟩, fun k hk => ?_⟩
    · have h := heap_alloc_new ((w.alloc (.cells #[] 3)).alloc (.cells #[.slice (some ⟨w.heap.size, 0, none⟩) 0 0] 36)) (.cells #[.slice (some ⟨w.heap.size + 1, 0, none⟩) 1 1] 24)
      simpa using h
    · obtain rfl : k = 0 := by omega
      have h0 : (clsN zss 0).length = 1 := by rw [← lev_len hbas (by omega)]; rfl
      refine ⟨some ⟨w.heap.size + 1, 0, none⟩, 1, ?_⟩
      show some (Value.slice (some ⟨w.heap.size + 1, 0, none⟩) 1 1) = some (.slice _ (clsN zss 0).length 1)
      rw [h0]
  clear hS hbas hI0 hb1 hb2 hl1
  go_enter Tryz.func74, Tryz.ntmps74
  go_wp2
  go_loopw [5, 6, 7] (fun lv ov kv wr => ∃ k : Nat, k ≤ m ∧ kv = .int .i64 ((k : Int) + 1) ∧ Below w.heap.size w wr ∧ IntsS wr w.heap.size lv (lev zss k) ∧ Heads wr w.heap.size ov (k + 1) (fun k => (clsN zss k).length)) (fun _ _ kv _ => m + 1 - (intOf kv).toNat)
  case atStart => exact ⟨0, Nat.zero_le _, rfl, hb3, hl2, ho2⟩
  case round =>
    obtain ⟨k, hk, rfl, hb, hlv, hov⟩ := hrel
    clear hb3 hl2 ho2
    by_cases hlt : k < m
    · have hkm : (k : Int) + 1 ≤ (m : Int) := by omega
      obtain ⟨Al, cl, rfl⟩ := hlv.slice
      have hbas := (unhide HA).2
      have H4 := hide (snx_any A Al n c B _ cl w.heap.size (k + 1) zss (lev zss k) wr ((unhide HA).1.below hb) hlv hn (lev_small hbas (by omega)) ⟨by omega, by omega⟩ (fun z hz => (basis_isP hbas z hz).1) (fun z hz => by have h := lev_rows hbas (k := k) (by omega) z hz; exact ⟨h.1, by omega⟩))
      rw [nxtK_lev, show ((k + 1 : Nat) : Int) = (k : Int) + 1 by omega] at H4
      have hls := lev_small hbas (k := k + 1) (by omega)
      have HLN := hide (lev_len hbas (k := k + 1) (by omega))
      obtain ⟨Y, hY⟩ : ∃ Y, Y = lev zss (k + 1) := ⟨_, rfl⟩
      rw [← hY] at H4 hls HLN
      have HY := hide hY
      have hwl := hlv.len
      obtain ⟨lk, hlk⟩ : ∃ l, l = (lev zss k).length := ⟨_, rfl⟩
      rw [← hlk] at H4 ⊢
      clear hlv hbas hY hwl hlk
      go_wp2_with fail
      refine (unhide H4).mono ?_
      rintro e w2 ⟨A2, c2, rfl, o2, d2⟩
      obtain ⟨us, h1, h2⟩ := hov.below d2
      have hb2 := below_after hb d2
      have hBw := hb.size
      have hall : ∀ k', k' < k + 1 → ∃ A c, us[k']? = some (.slice A (clsN zss k').length c) := h2
      have HU := hide hall
      have hus : us.length = k + 1 := by simpa using h1.1
      have hcb : ∀ g, u6.ownBlock = some g → g < wr.heap.size := fun g hg => by
        obtain ⟨us', h1', _⟩ := hov
        exact (h1'.lt g hg).2
      have HCB := hide hcb
      have HO := hide o2
      clear H4 h2 hall o2 hov d2 hcb hb
      go_wp2_with (first
        | (at_builtin; refine wpList_append_one rfl (.tmp 21) (.tmp 23) 71 rfl w.heap.size 24 i1 (.slice none 0 0) 24 Tryz.underlying71 hi hz0 hz1 hz2 rfl w w2 _ _ _ rfl h1 (.slice A2 Y.length c2) rfl rfl rfl (by omega) (by simp only [maxLen]; omega) hb2 hb2.size ?_; intro v3 w3 hown3 hb3 hg3))
      have hg4 : w2.grownBy w3 u6.ownBlock := hg3
      have hlast : IntsS w3 wr.heap.size (.slice A2 Y.length c2) Y := by
        cases hc : u6.ownBlock with
        | none =>
          rw [hc] at hg4
          exact (unhide HO).below ⟨hg4.os, hg4.tape, hg4.output, hg4.size, fun i hi => hg4.block i hi (by simp)⟩
        | some g =>
          rw [hc] at hg4
          exact IntsS.off (unhide HO) hg4 (unhide HCB g hc)
      have hl9 := hlast.low hBw
      have hh9 : Heads w3 w.heap.size v3 (k + 1 + 1) (fun k => (clsN zss k).length) := ⟨_, hown3, fun j hj => by
        by_cases hjk : j < k + 1
        · rw [List.getElem?_append_left (by omega)]
          exact unhide HU j hjk
        · obtain rfl : j = k + 1 := by omega
          refine ⟨A2, c2, ?_⟩
          rw [List.getElem?_append_right (by omega), hus, Nat.sub_self]
          show some (Value.slice A2 Y.length c2) = some (.slice A2 (clsN zss (k + 1)).length c2)
          rw [unhide HLN]⟩
      have HL9 := hide hl9
      have HY2 := hide (unhide HY)
      clear hlast hown3 h1 hg3 hg4 hb2 hl9
      go_roundw
      case rel => exact ⟨k + 1, by omega, by go_num, hb3, by rw [← unhide HY2]; exact unhide HL9, hh9⟩
      case measure => simp [intOf]; omega
    · obtain rfl : k = m := by omega
      have hkm : ¬ ((k : Int) + 1 ≤ (k : Int)) := by omega
      have HV := hide hov
      clear hov hlv
      go_wp2
      go_ret
      exact ⟨_, rfl, unhide HV, hb⟩
set_option maxHeartbeats 1600000 in
theorem sccn_any (A : Option Addr) (n c B : Nat) (zss : List (List Int)) (m : Int) (hm : -9223372036854775808 ≤ m ∧ m ≤ 9223372036854775807) (w : World) (hS : IntsS w B (.slice A n c) zss) (hn : n ≤ 1048576) (hsm : ∀ z ∈ zss, z.length ≤ 1048576 ∧ Small z) :
    Calls Tryz.prog 29 #[.slice A n c, .int .i64 m] w (GivesI w (cntsR zss m)) := by
  obtain ⟨i0, hi, hz0, hz1, hz2⟩ := info_parts intInfo
  obtain ⟨hm1, hm2⟩ := hm
  have hst := own0 w w.heap.size (Nat.le_refl _)
  have hbel := (Below.refl w.heap.size w).alloc (Nat.le_refl _) (.cells #[] 3)
  obtain ⟨b, hb⟩ : ∃ b, basis zss = b := ⟨_, rfl⟩
  have H1 := hide (sbas_any A n c B zss _ (hS.below hbel) hn hsm)
  rw [hb] at H1
  cases b with
  | false =>
    rw [cntsR_no (fun h => by rw [hb] at h; cases h.1)]
    have hI := Ints.made0 w w.heap.size (Nat.le_refl _)
    clear hb hS hsm hst
    go_enter Tryz.func29, Tryz.ntmps29
    go_wp2_with fail
    refine (unhide H1).mono ?_
    rintro e w1 ⟨rfl, d1⟩
    have hI2 := hI.below d1
    have hb1 := below_after hbel d1
    clear H1 d1 hI hbel
    go_wp2
    go_ret
    exact GivesI.mk hI2 hb1
  | true =>
    by_cases hin : 0 ≤ m ∧ m ≤ 6
    · obtain ⟨k, rfl⟩ : ∃ k : Nat, m = (k : Int) := ⟨m.toNat, by omega⟩
      have hk6 : k ≤ 6 := by omega
      rw [cntsR_yes hb hk6]
      have H2 := hide (fun w' => l1in_any (k : Int) 0 6 true (decide_eq_true hin) w')
      have H3 := hide (fun (w' : World) (d : Below w.heap.size w w') => slev_any A n c B k zss w' (hS.below d) hn hk6 hb)
      have HLS := hide (fun (j : Nat) (hj : j ≤ 6) => Nat.le_trans (Nat.le_of_eq (lev_len hb hj).symm) (lev_small hb hj))
      clear hb hS hsm hin hm1 hm2
      go_enter Tryz.func29, Tryz.ntmps29
      go_wp2_with fail
      refine (unhide H1).mono ?_
      rintro e w1 ⟨rfl, d1⟩
      have hst1 := own_below hst d1
      have hb1 := below_after hbel d1
      clear H1 d1 hst hbel
      go_wp2_with fail
      refine (unhide H2 w1).mono ?_
      rintro e w2 ⟨rfl, hw2⟩
      rw [hw2]
      clear H2 hw2 w2
      have H4 := hide (unhide H3 w1 hb1)
      clear H3
      go_wp2_with fail
      refine (unhide H4).mono ?_
      rintro e w3 ⟨v3, rfl, ⟨us, h3, hus⟩, d3⟩
      have hst3 := own_below hst1 d3
      have hb3 := below_after hb1 d3
      obtain ⟨A3, c3, rfl, _⟩ := Reads.of_own h3
      have HU := hide hus
      clear H4 hst1 d3 hb1 hus
      go_wp2
      go_loopw [5, 7] (fun ov i wr => ∃ j : Nat, j ≤ k + 1 ∧ i = .int .i64 j ∧ wr.ownsRow w1.heap.size 24 1 (.slice A3 (k + 1) c3) (k + 1) us ∧ wr.ownsRow w.heap.size 3 1 ov j (i64s (cntsN zss j)) ∧ Below w.heap.size w wr) (fun _ i _ => k + 1 - (intOf i).toNat)
      case atStart => exact ⟨0, Nat.zero_le _, rfl, h3, hst3, hb3⟩
      case round =>
        obtain ⟨j, hj, rfl, h4, ho, hb⟩ := hrel
        clear h3 hst3 hb3
        by_cases hlt : j < k + 1
        · obtain ⟨ad, u, rfl, _, hu, hc⟩ := (Reads.of_own_at h4).at_ hlt
          obtain ⟨A5, c5, hu2⟩ := unhide HU j hlt
          obtain rfl : u = .slice A5 (clsN zss j).length c5 := Option.some.inj (hu.symm.trans hu2)
          have hls := unhide HLS j (by omega)
          have HE := hide (show i64s (cntsN zss j) ++ [.int .i64 (((clsN zss j).length : Nat) : Int)] = i64s (cntsN zss (j + 1)) by rw [cntsN_step]; unfold i64s; simp)
          obtain ⟨l, hl⟩ : ∃ l, l = (clsN zss j).length := ⟨_, rfl⟩
          rw [← hl] at hc hls HE
          have h4' := h4
          have HO4 := hide (own_types h4 ho (by decide))
          have hlt2 : (j : Int) < (k : Int) + 1 := by omega
          clear hu hu2 hl h4
          go_wp2_with (first
            | (at_builtin; refine wpList_append_one rfl (.tmp 27) (.tmp 33) 36 rfl w.heap.size 3 i0 (.int .i64 0) 8 Tryz.underlying36 hi hz0 hz1 hz2 rfl w wr _ _ _ rfl ho (.int .i64 (l : Int)) rfl rfl rfl (by omega) (by simp only [maxLen]; omega) hb hb.size ?_; intro v5 w5 hown5 hb5 hg5))
          have hg6 : wr.grownBy w5 u5.ownBlock := hg5
          have h5 := h4'.kept hg6 (unhide HO4)
          rw [unhide HE] at hown5
          clear h4' hg5 hg6 ho hb hc
          go_roundw
          case rel => exact ⟨j + 1, by omega, by go_num, h5, hown5, hb5⟩
          case measure => simp [intOf]; omega
        · obtain rfl : j = k + 1 := by omega
          have hI := hide (show Ints wr w.heap.size u5 (cntsN zss (k + 1)) from Ints.of_own ho)
          have hlt2 : ¬ ((k : Int) + 1 < (k : Int) + 1) := by omega
          clear ho h4
          go_wp2
          go_ret
          exact GivesI.mk (unhide hI) hb
    · rw [cntsR_no (fun h => hin h.2)]
      have H2 := hide (fun w' => l1in_any m 0 6 false (decide_eq_false hin) w')
      have hI := Ints.made0 w w.heap.size (Nat.le_refl _)
      clear hb hS hsm hst hin
      go_enter Tryz.func29, Tryz.ntmps29
      go_wp2_with fail
      refine (unhide H1).mono ?_
      rintro e w1 ⟨rfl, d1⟩
      have hI2 := hI.below d1
      have hb1 := below_after hbel d1
      clear H1 d1 hI hbel
      go_wp2_with fail
      refine (unhide H2 w1).mono ?_
      rintro e w2 ⟨rfl, hw2⟩
      rw [hw2]
      clear H2 hw2 w2
      go_wp2
      go_ret
      exact GivesI.mk hI2 hb1
end Go.Proofs.YtoiipedomgefaaaGreatDoor


/-
  PLAIN: a permutation's text, and back. Nothing here speaks of the program.
-/

namespace Go.Proofs.YtoiipedomgefaaaGreatDoor
set_option maxRecDepth 100000

def dgt (z : Int) : UInt8 := UInt8.ofNat (48 + z.toNat)
def textL (l : List Int) : List UInt8 := l.map dgt
theorem textL_length (l : List Int) : (textL l).length = l.length := by simp [textL]
theorem textL_nil : textL [] = [] := rfl
theorem textL_step {l : List Int} {k : Nat} {z : Int} (h : l[k]? = some z) : textL (l.take (k + 1)) = textL (l.take k) ++ [dgt z] := by unfold textL; rw [take_snoc_i h, List.map_append, List.map_singleton]
theorem itoa_one {z : Int} (h0 : 1 ≤ z) (h1 : z ≤ 8) : Lib.itoa z = [dgt z] := by
  rw [Lib.itoa, if_neg (by omega)]
  exact Lib.decDigits_one (by omega)
/-- The text's numbers as integers. -/
def textI (l : List Int) : List Int := l.map (48 + ·)
theorem textI_length (l : List Int) : (textI l).length = l.length := by simp [textI]
theorem textI_at {l : List Int} {k : Nat} {z : Int} (h : l[k]? = some z) : (textI l)[k]? = some (48 + z) := by unfold textI; rw [List.getElem?_map, h]; rfl
theorem push_list : ∀ (ns : List Int) (s : ByteArray), (ns.foldl (fun r n => r.push (UInt8.ofNat n.toNat)) s) = ⟨s.data ++ (ns.map fun n => UInt8.ofNat n.toNat).toArray⟩
  | [], s => by simp
  | n :: ns, s => by
    rw [List.foldl_cons, push_list ns]
    simp [ByteArray.push]
theorem textI_bytes {l : List Int} (h : ∀ z ∈ l, 0 ≤ z) : (textI l).map (fun n => UInt8.ofNat n.toNat) = textL l := by
  unfold textI textL
  rw [List.map_map]
  refine List.map_congr_left fun z hz => ?_
  have := h z hz
  simp only [Function.comp, dgt]
  congr 1
  omega

def ptext (l : List Int) : ByteArray := if isP l then (if l = [] then ⟨#[45]⟩ else ⟨(textL l).toArray⟩) else ByteArray.empty
theorem ptext_no {l : List Int} (h : isP l = false) : ptext l = ByteArray.empty := by unfold ptext; rw [if_neg (by simp [h])]
theorem ptext_nil {l : List Int} (h : isP l = true) (h0 : l.length = 0) : ptext l = ⟨#[45]⟩ := by unfold ptext; rw [if_pos h, if_pos (List.eq_nil_of_length_eq_zero h0)]
theorem ptext_yes {l : List Int} (h : isP l = true) (h0 : l.length ≠ 0) : ptext l = ⟨(textL l).toArray⟩ := by
  unfold ptext
  rw [if_pos h, if_neg (fun e => h0 (by rw [e]; rfl))]

/-- A text's numbers. -/
def tnums (s : ByteArray) : List Int := s.data.toList.map fun b => (b.toNat : Int) - 48
theorem tnums_length (s : ByteArray) : (tnums s).length = s.size := by
  unfold tnums
  rw [List.length_map, Array.length_toList]; rfl
theorem tnums_at {s : ByteArray} {k : Nat} (h : k < s.size) : (tnums s)[k]? = some ((s[k].toNat : Int) - 48) := by
  have hl : s.data.toList.length = s.size := by rw [Array.length_toList]; rfl
  unfold tnums
  rw [List.getElem?_map, List.getElem?_eq_getElem (by omega)]
  rfl
theorem tnums_small {s : ByteArray} : ∀ z ∈ tnums s, -48 ≤ z ∧ z ≤ 207 := by
  intro z hz
  unfold tnums at hz
  obtain ⟨b, _, rfl⟩ := List.mem_map.1 hz
  have := b.toNat_lt
  omega
def ppOK (s : ByteArray) : Bool := decide (s = ⟨#[45]⟩) || (decide (0 < s.size) && isP (tnums s))
def ppR (s : ByteArray) : List Int := if s = ⟨#[45]⟩ then [] else if ppOK s then tnums s else []
theorem ppOK_dash : ppOK ⟨#[45]⟩ = true := by simp [ppOK]
theorem ppR_dash : ppR ⟨#[45]⟩ = [] := by simp [ppR]
theorem ppOK_else {s : ByteArray} (h : s ≠ ⟨#[45]⟩) (h0 : 0 < s.size) : ppOK s = isP (tnums s) := by simp [ppOK, h, h0]
theorem ppOK_none {s : ByteArray} (h : s ≠ ⟨#[45]⟩) (h0 : s.size = 0) : ppOK s = false := by simp [ppOK, h, h0]
theorem ppR_yes {s : ByteArray} (h : s ≠ ⟨#[45]⟩) (hk : ppOK s = true) : ppR s = tnums s := by unfold ppR; rw [if_neg h, if_pos hk]
theorem ppR_no {s : ByteArray} (h : s ≠ ⟨#[45]⟩) (hk : ppOK s = false) : ppR s = [] := by unfold ppR; rw [if_neg h, if_neg (by simp [hk])]
theorem ppR_le (s : ByteArray) : (ppR s).length ≤ 8 := by
  by_cases h : s = ⟨#[45]⟩
  · subst h; rw [ppR_dash]; simp
  · cases hk : ppOK s with
    | false => rw [ppR_no h hk]; simp
    | true =>
      rw [ppR_yes h hk]
      by_cases h0 : 0 < s.size
      · rw [ppOK_else h h0] at hk
        exact isP_le hk
      · rw [tnums_length]; omega
end Go.Proofs.YtoiipedomgefaaaGreatDoor


/-
  PLAIN: a permutation is parsed from its text, is undone by its inverse, is its own pattern.
-/

namespace Go.Proofs.YtoiipedomgefaaaGreatDoor
set_option maxRecDepth 100000

theorem comp_inv {p : List Int} (h : isP p = true) : compOK p (invL p) = true ∧ compR p (invL p) = upTo p.length := by
  have hok := compOK_yes h (invL_isP h) (invL_length p).symm
  refine ⟨hok, ?_⟩
  rw [compR_yes hok, invL_length]
  refine List.ext_getElem? fun j => ?_
  by_cases hj : j < p.length
  · obtain ⟨i, hi, h1, h2⟩ := invL_get h hj
    rw [compL_at hj h2 (y := (j : Int) + 1) (by rw [show ((i : Int) + 1).toNat - 1 = i by omega]; exact h1)]
    unfold upTo
    rw [List.getElem?_map, List.getElem?_range hj]
    rfl
  · rw [List.getElem?_eq_none (by rw [compL_length]; omega), List.getElem?_eq_none (by rw [upTo_length]; omega)]
theorem invR_inv {p : List Int} (h : isP p = true) : invR p = invL p := by rw [invR_yes h]; rfl
theorem pat_self {p : List Int} (h : isP p = true) : patOK p = true ∧ patR p = p := by
  have hok := patOK_yes (isP_le h) (isP_true.1 h).2.2
  refine ⟨hok, ?_⟩
  rw [patR_yes hok]
  unfold patL
  refine (List.map_congr_left fun v hv => ?_).trans (List.map_id _)
  have := cnt_isP h hv
  simp only [id]; omega
theorem nums_text {p : List Int} (h : isP p = true) : tnums ⟨(textL p).toArray⟩ = p := by
  unfold tnums textL
  rw [List.map_map]
  refine (List.map_congr_left fun z hz => ?_).trans (List.map_id _)
  have hr := (isP_true.1 h).2.1 z hz
  have h8 := isP_le h
  simp only [Function.comp, id, dgt]
  rw [UInt8.toNat_ofNat']
  omega
theorem pp_text (p : List Int) : ppOK (ptext p) = isP p ∧ (isP p = true → ppR (ptext p) = p) := by
  cases h : isP p with
  | false =>
    rw [ptext_no h]
    refine ⟨?_, fun e => by cases e⟩
    exact ppOK_none (by decide) rfl
  | true =>
    by_cases h0 : p.length = 0
    · rw [ptext_nil h h0, List.eq_nil_of_length_eq_zero h0]
      exact ⟨ppOK_dash, fun _ => ppR_dash⟩
    · have hn := nums_text h
      rw [ptext_yes h h0]
      have hne : (⟨(textL p).toArray⟩ : ByteArray) ≠ ⟨#[45]⟩ := fun e => by
        rw [e] at hn
        have h1 : p = [-3] := by rw [← hn]; decide
        rw [h1] at h
        revert h
        decide
      have hsz : 0 < (⟨(textL p).toArray⟩ : ByteArray).size := by
        rw [← tnums_length, hn]; omega
      have hok : ppOK ⟨(textL p).toArray⟩ = true := by rw [ppOK_else hne hsz, hn, h]
      exact ⟨hok, fun _ => by rw [ppR_yes hne hok, hn]⟩
theorem ptext_size (p : List Int) : (ptext p).size ≤ 8 := by
  cases h : isP p with
  | false => rw [ptext_no h]; decide
  | true =>
    by_cases h0 : p.length = 0
    · rw [ptext_nil h h0]; decide
    · rw [ptext_yes h h0]
      show (textL p).toArray.size ≤ 8
      rw [List.size_toArray, textL_length]
      exact isP_le h
end Go.Proofs.YtoiipedomgefaaaGreatDoor


/-
  PLAIN: the ways of impl's chapter 12: a basis as the order leaves it, a class by the lowers of its permutations, a basis by its class. Nothing here speaks of the program.
-/

namespace Go.Proofs.YtoiipedomgefaaaGreatDoor
set_option maxRecDepth 100000

/-! MakeBasis -/
theorem mkK_mono (Z : List (List Int)) (k : Nat) : ∀ j, (mkK Z k).length ≤ (mkK Z (k + j)).length
  | 0 => Nat.le_refl _
  | j + 1 => by
    refine Nat.le_trans (mkK_mono Z k j) ?_
    rw [show k + (j + 1) = (k + j) + 1 by omega, mkK]
    split
    · rw [List.length_append]; omega
    · exact Nat.le_refl _
theorem mkK_sub (Z : List (List Int)) : ∀ k, k ≤ Z.length → (mkK Z k).Sublist (Z.take k)
  | 0, _ => by simp [mkK]
  | k + 1, hk => by
    have ih := mkK_sub Z k (by omega)
    have h1 : Z[k]? = some (Z.getD k []) := by rw [List.getD_eq_getElem?_getD, List.getElem?_eq_getElem (by omega)]; rfl
    rw [mkK, List.take_add_one, h1]
    split
    · exact ih.append (List.Sublist.refl _)
    · exact ih.trans (List.sublist_append_left _ _)
/-- Nothing of the list occurs in what comes behind it. -/
def Apart (U : List (List Int)) : Prop := ∀ k z, U[k]? = some z → avo (U.take k) z = true
theorem mkK_apart (Z : List (List Int)) : ∀ k, Apart (mkK Z k)
  | 0 => fun k z h => by simp [mkK] at h
  | k + 1 => fun i z h => by
    have ih := mkK_apart Z k
    rw [mkK] at h ⊢
    split at h
    · rename_i ha
      rw [if_pos ha]
      by_cases hi : i < (mkK Z k).length
      · rw [List.getElem?_append_left hi] at h
        rw [List.take_append_of_le_length (by omega)]
        exact ih i z h
      · rw [List.getElem?_append_right (by omega)] at h
        have h0 : i - (mkK Z k).length = 0 := by
          have := (List.getElem?_eq_some_iff.1 h).1
          simp at this
          omega
        rw [h0] at h
        simp at h
        subst h
        rw [show i = (mkK Z k).length by omega, List.take_append_of_le_length (Nat.le_refl _), List.take_length]
        exact ha
    · rename_i ha
      rw [if_neg ha]
      exact ih i z h
theorem ordR_asc (L : List (List Int)) : Asc (ordR L) := by
  unfold ordR
  split
  · exact ordL_asc _ _
  · exact List.Pairwise.nil
theorem ordR_iff {L : List (List Int)} (h : allP L = true) {x : List Int} : x ∈ ordR L ↔ x ∈ L := by rw [ordR_yes h, ordL_mem, List.take_length]
theorem mkO_asc (L : List (List Int)) : Asc (mkO L) := by
  have h := mkK_sub (ordR L) (ordR L).length (Nat.le_refl _)
  rw [List.take_length] at h
  exact List.Pairwise.sublist h (ordR_asc L)
theorem mkO_mem {L : List (List Int)} {x : List Int} (h : x ∈ mkO L) : x ∈ ordR L := mkK_mem _ (Nat.le_refl _) x h
theorem basis_of {U : List (List Int)} (hP : ∀ z ∈ U, isP z = true ∧ z.length ≠ 0) (hA : Asc U) (hp : Apart U) (h8 : U.length ≤ 8) : basis U = true := by
  unfold basis
  rw [decide_eq_true h8, Bool.and_true, List.all_eq_true]
  intro k hk
  have hk := List.mem_range.1 hk
  have hz : U[k]? = some U[k] := List.getElem?_eq_getElem hk
  have h1 := hP _ (List.getElem_mem hk)
  rw [basAt_at hz, h1.1, decide_eq_true h1.2, hp k _ hz, Bool.true_and, Bool.true_and, Bool.and_true, Bool.or_eq_true, decide_eq_true_eq]
  by_cases h0 : k = 0
  · exact .inl h0
  · obtain ⟨a, rfl⟩ : ∃ a, k = a + 1 := ⟨k - 1, by omega⟩
    right
    rw [Nat.add_sub_cancel, getD_row (List.getElem?_eq_getElem (show a < U.length by omega))]
    unfold Asc at hA
    exact List.pairwise_iff_getElem.1 hA a (a + 1) (by omega) hk (by omega)
/-- What MakeBasis turns away at once. -/
def badB (p : List Int) : Bool := !isP p || decide (p.length = 0)
theorem badB_no {p : List Int} (h : badB p = false) : isP p = true ∧ p.length ≠ 0 := by
  unfold badB at h
  simp only [Bool.or_eq_false_iff, Bool.not_eq_false', decide_eq_false_iff_not] at h
  exact h
theorem any_bad_no {L : List (List Int)} (h : L.any badB = false) : ∀ z ∈ L, isP z = true ∧ z.length ≠ 0 := fun z hz => by
  rw [List.any_eq_false] at h
  have := h z hz
  exact badB_no (by cases hb : badB z <;> simp_all)
theorem befL_nil {x : List Int} (h : befL x [] = true) : False := by
  have h1 := befL_len h
  obtain rfl := List.eq_nil_of_length_eq_zero (Nat.le_zero.1 h1)
  rw [befL_irrefl] at h
  cases h
theorem mkOK_bad {L : List (List Int)} (h : L.any badB = true) : mkOK L = false := by
  unfold mkOK
  cases hp : allP L with
  | false => rfl
  | true =>
    rw [Bool.true_and]
    rw [List.any_eq_true] at h
    obtain ⟨z, hz, hb⟩ := h
    have hzp := allP_at hp hz
    unfold badB at hb
    rw [hzp] at hb
    simp at hb
    subst hb
    have hm : ([] : List Int) ∈ ordR L := (ordR_iff hp).2 hz
    have hA := ordR_asc L
    unfold Asc at hA
    obtain ⟨i, hi, he⟩ := List.getElem_of_mem hm
    have h0 : i = 0 := by
      apply Classical.byContradiction
      intro hne
      have h1 := List.pairwise_iff_getElem.1 hA 0 i (by omega) hi (by omega)
      rw [he] at h1
      exact befL_nil h1
    subst h0
    have h1 : mkK (ordR L) 1 = [[]] := by
      rw [mkK_yes (z := []) (by rw [List.getElem?_eq_getElem hi, he]) (by rw [mkK]; rfl)]
      rfl
    have h2 : ∀ j, ([] : List Int) ∈ mkK (ordR L) (1 + j) := by
      intro j
      induction j with
      | zero => rw [h1]; simp
      | succ j ih =>
        rw [show 1 + (j + 1) = (1 + j) + 1 by omega, mkK]
        split
        · exact List.mem_append_left _ ih
        · exact ih
    have h3 := h2 ((ordR L).length - 1)
    rw [show 1 + ((ordR L).length - 1) = (ordR L).length by omega] at h3
    cases hb : basis (mkO L) with
    | false => rfl
    | true => exact absurd rfl (basis_isP hb [] h3).2
theorem mkOK_many {L : List (List Int)} {k : Nat} (hk : k ≤ (ordR L).length) (h : 8 < (mkK (ordR L) k).length) : mkOK L = false := by
  unfold mkOK
  cases hb : basis (mkO L) with
  | false => rw [Bool.and_false]
  | true =>
    have h1 := basis_le hb
    have h2 := mkK_mono (ordR L) k ((ordR L).length - k)
    rw [show k + ((ordR L).length - k) = (ordR L).length by omega] at h2
    unfold mkO at h1
    omega
theorem mkOK_good {L : List (List Int)} (h : L.any badB = false) (h8 : (mkO L).length ≤ 8) : mkOK L = true := by
  have h1 := any_bad_no h
  have hp : allP L = true := allP_yes fun z hz => (h1 z hz).1
  unfold mkOK
  rw [hp, Bool.true_and]
  refine basis_of (fun z hz => h1 z ?_) (mkO_asc L) (mkK_apart _ _) h8
  exact (ordR_iff hp).1 (mkO_mem hz)
/-! IsBasis -/
theorem ord_basis {L : List (List Int)} (h : basis L = true) : allP L = true ∧ ordR L = L := by
  have hp : allP L = true := allP_yes fun z hz => (basis_isP h z hz).1
  exact ⟨hp, asc_unique (ordR_asc L) (basis_asc h) fun x => ordR_iff hp⟩
theorem mkK_take {L : List (List Int)} (h : basis L = true) : ∀ k, k ≤ L.length → mkK L k = L.take k
  | 0, _ => by simp [mkK]
  | k + 1, hk => by
    have ih := mkK_take h k (by omega)
    have hz : L[k]? = some L[k] := List.getElem?_eq_getElem (by omega)
    have h1 := basis_at h (show k < L.length by omega)
    rw [basAt_at hz] at h1
    simp only [Bool.and_eq_true] at h1
    rw [mkK_yes hz (by rw [ih]; exact h1.2), ih, List.take_add_one, hz]
    rfl
theorem mk_basis {L : List (List Int)} (h : basis L = true) : mkO L = L ∧ mkOK L = true := by
  obtain ⟨h1, h2⟩ := ord_basis h
  have h3 : mkO L = L := by
    unfold mkO
    rw [h2, mkK_take h L.length (Nat.le_refl _), List.take_length]
  exact ⟨h3, by unfold mkOK; rw [h1, h3, h]; rfl⟩
theorem basis_made (L : List (List Int)) : basis L = (mkOK L && decide (L = mkR L)) := by
  cases hb : basis L with
  | true =>
    obtain ⟨h1, h2⟩ := mk_basis hb
    rw [mkR_yes h2, h1, h2]
    simp
  | false =>
    cases hk : mkOK L with
    | false => rfl
    | true =>
      rw [Bool.true_and, mkR_yes hk]
      symm
      rw [decide_eq_false_iff_not]
      intro e
      unfold mkOK at hk
      rw [← e, hb, Bool.and_false] at hk
      cases hk
/-! classUpTo -/
def allU (n : Nat) : List (List Int) := (List.range (n + 1)).flatMap permL
theorem mem_allU {n : Nat} (hn : n ≤ 6) {x : List Int} : x ∈ allU n ↔ isP x = true ∧ x.length ≤ n := by
  unfold allU
  rw [List.mem_flatMap]
  constructor
  · rintro ⟨k, hk, hx⟩
    have hk := List.mem_range.1 hk
    have := permL_mem k (by omega) x hx
    exact ⟨this.1, by omega⟩
  · rintro ⟨h1, h2⟩
    exact ⟨x.length, List.mem_range.2 (by omega), perm_all _ x rfl h1⟩
theorem allU_succ (n : Nat) : allU (n + 1) = allU n ++ permL (n + 1) := by unfold allU; rw [List.range_succ (n := n + 1), List.flatMap_append]; simp
theorem allU_asc : ∀ n : Nat, n ≤ 6 → Asc (allU n)
  | 0, _ => by
    have : allU 0 = [[]] := rfl
    rw [this]
    exact List.pairwise_singleton _ _
  | n + 1, hn => by
    unfold Asc
    rw [allU_succ, List.pairwise_append]
    refine ⟨allU_asc n (by omega), permL_asc (n + 1) hn, fun a ha b hb => ?_⟩
    have h1 := ((mem_allU (by omega)).1 ha).2
    have h2 := (permL_mem (n + 1) hn b hb).2
    rw [befL_ne (by omega)]
    exact decide_eq_true (by omega)
theorem allU_len : ∀ n : Nat, n ≤ 6 → (allU n).length ≤ 874 := by decide +kernel
theorem asc_take {Z : List (List Int)} (h : Asc Z) {k : Nat} {p q : List Int} (hp : Z[k]? = some p) (hq : q ∈ Z) (hb : befL q p = true) : q ∈ Z.take k := by
  obtain ⟨i, hi, rfl⟩ := List.getElem_of_mem hq
  obtain ⟨hk, rfl⟩ := List.getElem?_eq_some_iff.1 hp
  unfold Asc at h
  have hik : i < k := by
    apply Classical.byContradiction
    intro hno
    rcases Nat.lt_or_ge k i with h1 | h1
    · have h2 := List.pairwise_iff_getElem.1 h k i hk hi h1
      rw [befL_asymm h2] at hb; cases hb
    · obtain rfl : i = k := by omega
      rw [befL_irrefl] at hb; cases hb
  exact List.mem_of_getElem? (i := i) (by rw [List.getElem?_take_of_lt hik]; exact List.getElem?_eq_getElem hi)
/-- Every lower of p is in the list. -/
def lowIn (S : List (List Int)) (p : List Int) : Bool := (lowR p).all fun q => decide (q ∈ S)
theorem low_bef {p q : List Int} (hp : isP p = true) (h : q ∈ lowR p) : befL q p = true := by
  have h1 := low_len hp h
  rw [befL_ne (by omega)]
  exact decide_eq_true (by omega)
theorem avo_lows {L : List (List Int)} (hL : ∀ b ∈ L, isP b = true) {p : List Int} (hp : isP p = true) : avo L p = (!decide (p ∈ L) && (lowR p).all (avo L)) := by
  rw [Bool.eq_iff_iff]
  simp only [Bool.and_eq_true, Bool.not_eq_true', decide_eq_false_iff_not, List.all_eq_true]
  constructor
  · intro h
    refine ⟨fun hm => ?_, fun q hq => avo_low hL hp h hq⟩
    have h1 := avo_yes.1 h p hm
    rw [hasO_self hp] at h1; cases h1
  · rintro ⟨h1, h2⟩
    cases h : avo L p with
    | true => rfl
    | false =>
      obtain ⟨b, hb, hh⟩ := avo_not h
      obtain ⟨q, hq, hqb⟩ := low_has hp (hL b hb) hh (fun e => h1 (e ▸ hb))
      rw [avo_yes.1 (h2 q hq) b hb] at hqb
      cases hqb
/-- What classUpTo asks of the k-th permutation. -/
theorem cls_step {L : List (List Int)} (hL : ∀ b ∈ L, isP b = true) {n k : Nat} (hn : n ≤ 6) {p : List Int} (hp : (allU n)[k]? = some p) : avo L p = (!decide (p ∈ L) && lowIn (sift (avo L) (allU n) k) p) := by
  obtain ⟨h1, h2⟩ := (mem_allU hn).1 (List.mem_of_getElem? hp)
  rw [avo_lows hL h1]
  congr 1
  unfold lowIn
  rw [Bool.eq_iff_iff, List.all_eq_true, List.all_eq_true]
  refine forall_congr' fun q => forall_congr' fun hq => ?_
  rw [decide_eq_true_eq]
  unfold sift
  rw [List.mem_filter]
  constructor
  · intro h
    exact ⟨asc_take (allU_asc n hn) hp ((mem_allU hn).2 ⟨low_all hq, by have := low_len h1 hq; omega⟩) (low_bef h1 hq), h⟩
  · exact fun h => h.2
def clsU (L : List (List Int)) (n : Nat) : List (List Int) := (allU n).filter (avo L)
theorem clsU_sift (L : List (List Int)) (n : Nat) : clsU L n = sift (avo L) (allU n) (allU n).length := by rw [sift_all]; rfl
theorem clsU_all (L : List (List Int)) (n : Nat) : clsU L n = allC L n := by
  unfold clsU allU allC
  rw [List.filter_flatMap]
  rfl
theorem clsU_mem {L : List (List Int)} {n : Nat} (hn : n ≤ 6) {x : List Int} (h : x ∈ clsU L n) : isP x = true ∧ x.length ≤ n := by
  unfold clsU at h
  exact (mem_allU hn).1 (List.mem_filter.1 h).1
theorem clsU_len (L : List (List Int)) {n : Nat} (hn : n ≤ 6) : (clsU L n).length ≤ 874 := Nat.le_trans (List.length_filter_le _ _) (allU_len n hn)
/-! ClassOf -/
theorem clsU_top (L : List (List Int)) {n : Nat} (hn : n ≤ 6) : (clsU L n).filter (fun p => !decide (p.length < n)) = clsN L n := by
  unfold clsU clsN
  rw [List.filter_filter]
  have h0 : ∀ m, m ≤ n → (∀ x ∈ allU m, x.length < n) → (allU m).filter (fun a => !decide (a.length < n) && avo L a) = [] := by
    intro m hm h
    rw [List.filter_eq_nil_iff]
    intro x hx
    rw [decide_eq_true (h x hx)]
    simp
  have h1 : ∀ x ∈ permL n, (!decide (x.length < n) && avo L x) = avo L x := fun x hx => by
    rw [decide_eq_false (by have := (permL_mem n hn x hx).2; omega)]
    rfl
  cases n with
  | zero =>
    rw [show allU 0 = permL 0 from rfl]
    exact List.filter_congr h1
  | succ n =>
    rw [allU_succ, List.filter_append, h0 n (by omega) (fun x hx => by have := ((mem_allU (by omega)).1 hx).2; omega), List.nil_append]
    exact List.filter_congr h1
/-! ClassCounts -/
def tallyU (Z : List (List Int)) (n k : Nat) : List Int := (List.range (n + 1)).map fun j => (((Z.take k).countP fun p => decide (p.length = j) : Nat) : Int)
theorem tallyU_length (Z : List (List Int)) (n k : Nat) : (tallyU Z n k).length = n + 1 := by simp [tallyU]
theorem tallyU_at {Z : List (List Int)} {n k j : Nat} (h : j ≤ n) : (tallyU Z n k)[j]? = some (((Z.take k).countP fun p => decide (p.length = j) : Nat) : Int) := by
  unfold tallyU
  rw [List.getElem?_map, List.getElem?_range (by omega)]
  rfl
theorem tallyU_zero (Z : List (List Int)) (n : Nat) : tallyU Z n 0 = List.replicate (n + 1) 0 := by
  unfold tallyU
  apply List.ext_getElem?
  intro j
  by_cases hj : j < n + 1
  · rw [List.getElem?_map, List.getElem?_range hj, List.getElem?_replicate, if_pos hj]
    simp
  · rw [List.getElem?_eq_none (by simp; omega), List.getElem?_eq_none (by simp; omega)]
theorem tallyU_step {Z : List (List Int)} {n k : Nat} {z : List Int} (hz : Z[k]? = some z) :
    tallyU Z n (k + 1) = (tallyU Z n k).set z.length ((((Z.take k).countP fun p => decide (p.length = z.length) : Nat) : Int) + 1) := by
  apply List.ext_getElem?
  intro j
  by_cases hj : j < n + 1
  · rw [List.getElem?_set, tallyU_at (by omega)]
    rw [List.take_add_one, hz, Option.toList_some, List.countP_append]
    by_cases e : z.length = j
    · subst e
      rw [if_pos rfl, if_pos (by rw [tallyU_length]; omega)]
      simp
    · rw [if_neg e, tallyU_at (by omega)]
      simp [e]
  · rw [List.getElem?_eq_none (by rw [tallyU_length]; omega), List.getElem?_eq_none (by rw [List.length_set, tallyU_length]; omega)]
theorem tallyU_all (L : List (List Int)) {n : Nat} (hn : n ≤ 6) : tallyU (clsU L n) n (clsU L n).length = cntsN L (n + 1) := by
  unfold tallyU cntsN
  rw [List.take_length]
  refine List.map_congr_left fun j hj => ?_
  have hj := List.mem_range.1 hj
  congr 1
  rw [clsU_all]
  unfold allC
  rw [List.countP_flatMap]
  have h1 : ∀ k, k ≤ 6 → (clsN L k).countP (fun p => decide (p.length = j)) = if k = j then (clsN L k).length else 0 := fun k hk => by
    by_cases e : k = j
    · rw [if_pos e, List.countP_eq_length]
      intro x hx
      rw [decide_eq_true_eq, ← e]
      exact ((mem_clsN hk).1 hx).2.1
    · rw [if_neg e, List.countP_eq_zero]
      intro x hx
      rw [decide_eq_true_eq]
      have := ((mem_clsN hk).1 hx).2.1
      omega
  have h2 : ∀ m, m ≤ 7 → ((List.range m).map ((List.countP fun p => decide (p.length = j)) ∘ clsN L)).sum = if j < m then (clsN L j).length else 0 := by
    intro m
    induction m with
    | zero => intro _; simp
    | succ m ih =>
      intro hm
      rw [List.range_succ, List.map_append, List.sum_append, ih (by omega)]
      simp only [List.map_cons, List.map_nil, List.sum_cons, List.sum_nil, Function.comp_apply, Nat.add_zero]
      rw [h1 m (by omega)]
      by_cases e : m = j
      · subst e
        rw [if_neg (by omega), if_pos rfl, if_pos (by omega), Nat.zero_add]
      · rw [if_neg e, Nat.add_zero]
        by_cases h3 : j < m
        · rw [if_pos h3, if_pos (by omega)]
        · rw [if_neg h3, if_neg (by omega)]
  rw [h2 (n + 1) (by omega), if_pos hj]
/-! BasisUpTo -/
/-- What BasisUpTo strikes. -/
def outU (L : List (List Int)) (p : List Int) : Bool := decide (p ∈ L ++ [[]]) || !lowIn (L ++ [[]]) p
theorem outU_in {L : List (List Int)} {p : List Int} (h : p.length ≠ 0) : (!outU L p) = fineU L p := by
  unfold outU fineU lowIn okL
  rw [Bool.not_or, Bool.not_not]
  congr 1
  · congr 1
    rw [decide_eq_decide, List.mem_append, List.mem_singleton]
    constructor
    · rintro (h1 | rfl)
      · exact h1
      · exact absurd rfl h
    · exact .inl
  · congr 1
    funext q
    rw [Bool.eq_iff_iff, Bool.or_eq_true, decide_eq_true_eq, decide_eq_true_eq, decide_eq_true_eq, List.mem_append, List.mem_singleton, List.length_eq_zero_iff]
    exact Or.comm
theorem bu_all (L : List (List Int)) : ∀ n : Nat, n ≤ 6 → (allU n).filter (fun p => !outU L p) = buK L n
  | 0, _ => by
    rw [show allU 0 = [[]] from rfl, buK]
    have : outU L [] = true := by unfold outU; simp
    simp [this]
  | n + 1, hn => by
    rw [allU_succ, List.filter_append, bu_all L n (by omega), buK]
    congr 1
    exact List.filter_congr fun x hx => outU_in (by have := (permL_mem (n + 1) hn x hx).2; omega)
/-! texts tell permutations -/
theorem ptext_inj {p q : List Int} (hp : isP p = true) (hq : isP q = true) (h : ptext p = ptext q) : p = q := by
  have h1 := (pp_text p).2 hp
  have h2 := (pp_text q).2 hq
  rw [← h1, ← h2, h]
end Go.Proofs.YtoiipedomgefaaaGreatDoor
