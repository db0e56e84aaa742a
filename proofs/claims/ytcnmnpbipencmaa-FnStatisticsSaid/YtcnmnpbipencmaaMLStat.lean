/-
  THE LAW FnStatistics: inversions and the major index are told by one row, descents and rises by another one. (Written by wip/tools/mkfnstat.py.)
-/
import Derived.Test.YtcnmnpbipencmaaB5
import Derived.Test.YtcnmnpbipencmaaB3
import Derived.Test.YtcnmnpbipencmaaB4
import Derived.Test.YtcnmnpbipencmaaB6
import Derived.Deep.CutRange
import Derived.Deep.RegionLaw
import Derived.Deep.AppendLies
















namespace Go.Proofs.Ytcnmnpbipencmaa.fnStatistics
set_option maxRecDepth 100000
open Go.RowKit Go.ChangeShapes Go.WideShapes Go.ChangeAt

set_option maxRecDepth 100000 in
set_option maxHeartbeats 12800000 in
theorem walk (A : Option Addr) (n c : Nat) (bs : List UInt8) (w : World) (hr : Reads w w.heap.size A n (u8s bs)) (hn : n ≤ maxLen) :
    Calls Try.prog 3 #[.slice A n c] w fun e w' => e = .returned (.bool true) ∧ Below w.heap.size w w' := by
  unfold maxLen at hn
  have HG := hide (big_any A n c hn w)
  by_cases hbig : n ≤ 1048576
  · rw [show decide (1048576 < n) = false from decide_eq_false (by omega)] at HG
    go_enter Try.func3, Try.ntmps3
    go_wp2_with fail
    refine (unhide HG).mono ?_
    rintro e w0 ⟨rfl, rfl⟩
    clear HG
    have hb := Below.refl w.heap.size w
    go_wp2_with fail
    refine (dinvs_any A n c w.heap.size bs w (hr.below hb) hbig hb.size).mono ?_
    rintro e w1 ⟨A_p, c_p, p, rfl, l_p, o_p, d⟩
    replace hb := below_after hb d
    clear d
    replace l_p := hide l_p
    have hp9 : p.length ≤ 9 := (unhide l_p).1
    go_wp2_with fail
    refine (deul_any A n c w.heap.size bs w1 (hr.below hb) hbig hb.size).mono ?_
    rintro e w2 ⟨n1, rfl, n_n, d⟩
    replace o_p := o_p.below d
    replace hb := below_after hb d
    clear d
    obtain ⟨E, hE⟩ : ∃ X, X = eulR n1 := ⟨_, rfl⟩
    obtain ⟨nE, hnE⟩ : ∃ n, n = E.length := ⟨_, rfl⟩
    have lE : nE ≤ 46 := by rw [hnE, hE]; have := eulR_le n1; omega
    have HE := hide hE
    have HNE := hide hnE
    clear hE hnE
    have H1 := hide (ieul_any n1 (by omega) w2)
    rw [← unhide HE] at H1
    go_wp2_with fail
    refine (unhide H1).mono ?_
    rintro e w3 ⟨A_e, c_e, rfl, o_e, d⟩
    replace o_p := o_p.below d
    replace hb := below_after hb d
    clear d
    clear H1
    rw [← unhide HNE] at o_e ⊢
    go_wp2_with fail
    refine (dmah_any A n c w.heap.size bs w3 (hr.below hb) hbig hb.size).mono ?_
    rintro e w4 ⟨k1, rfl, n_k, d⟩
    replace o_p := o_p.below d
    replace o_e := o_e.below d
    replace hb := below_after hb d
    clear d
    obtain ⟨M, hM⟩ : ∃ X, X = mahR k1 := ⟨_, rfl⟩
    obtain ⟨nM, hnM⟩ : ∃ n, n = M.length := ⟨_, rfl⟩
    have lM : nM ≤ 46 := by rw [hnM, hM]; have := mahR_le k1; omega
    have HM := hide hM
    have HNM := hide hnM
    clear hM hnM
    have H1 := hide (imah_any k1 (by omega) w4)
    rw [← unhide HM] at H1
    go_wp2_with fail
    refine (unhide H1).mono ?_
    rintro e w5 ⟨A_m, c_m, rfl, o_m, d⟩
    replace o_p := o_p.below d
    replace o_e := o_e.below d
    replace hb := below_after hb d
    clear d
    clear H1
    rw [← unhide HNM] at o_m ⊢
    obtain ⟨z1, hz1⟩ : ∃ z, z = invsR p := ⟨_, rfl⟩
    have Hz1 := hide hz1
    clear hz1
    have H1 := hide (iinvs_any A_p _ c_p _ p w5 ((unhide l_p).arg o_p (by omega)))
    rw [← unhide Hz1] at H1
    go_wp2_with fail
    refine (unhide H1).mono ?_
    rintro e w6 ⟨rfl, d⟩
    replace o_p := o_p.below d
    replace o_e := o_e.below d
    replace o_m := o_m.below d
    replace hb := below_after hb d
    clear d
    clear H1
    have H1 := hide (sinvs_any A_p _ c_p _ p w6 ((unhide l_p).arg o_p (by omega)))
    rw [← unhide Hz1] at H1
    go_wp2_with fail
    refine (unhide H1).mono ?_
    rintro e w7 ⟨rfl, d⟩
    replace o_p := o_p.below d
    replace o_e := o_e.below d
    replace o_m := o_m.below d
    replace hb := below_after hb d
    clear d
    clear H1
    obtain ⟨z2, hz2⟩ : ∃ z, z = majR p := ⟨_, rfl⟩
    have Hz2 := hide hz2
    clear hz2
    have H1 := hide (imaj_any A_p _ c_p _ p w7 ((unhide l_p).arg o_p (by omega)))
    rw [← unhide Hz2] at H1
    go_wp2_with fail
    refine (unhide H1).mono ?_
    rintro e w8 ⟨rfl, d⟩
    replace o_p := o_p.below d
    replace o_e := o_e.below d
    replace o_m := o_m.below d
    replace hb := below_after hb d
    clear d
    clear H1
    have H1 := hide (smaj_any A_p _ c_p _ p w8 ((unhide l_p).arg o_p (by omega)))
    rw [← unhide Hz2] at H1
    go_wp2_with fail
    refine (unhide H1).mono ?_
    rintro e w9 ⟨rfl, d⟩
    replace o_p := o_p.below d
    replace o_e := o_e.below d
    replace o_m := o_m.below d
    replace hb := below_after hb d
    clear d
    clear H1
    obtain ⟨XD, hXD⟩ : ∃ X, X = plR (gD p) p := ⟨_, rfl⟩
    obtain ⟨nXD, hnXD⟩ : ∃ n, n = XD.length := ⟨_, rfl⟩
    have lXD : nXD ≤ 46 := by rw [hnXD, hXD]; have := plR_le (gD p) p; omega
    have HXD := hide hXD
    have HNXD := hide hnXD
    clear hXD hnXD
    have H1 := hide (idesc_any A_p _ c_p _ p w9 ((unhide l_p).arg o_p (by omega)))
    rw [← unhide HXD] at H1
    go_wp2_with fail
    refine (unhide H1).mono ?_
    rintro e w10 ⟨A_a, c_a, rfl, o_a, d⟩
    replace o_p := o_p.below d
    replace o_e := o_e.below d
    replace o_m := o_m.below d
    replace hb := below_after hb d
    clear d
    clear H1
    rw [← unhide HNXD] at o_a ⊢
    have H1 := hide (sdesc_any A_p _ c_p _ p w10 ((unhide l_p).arg o_p (by omega)))
    rw [← unhide HXD] at H1
    go_wp2_with fail
    refine (unhide H1).mono ?_
    rintro e w11 ⟨A_b, c_b, rfl, o_b, d⟩
    replace o_p := o_p.below d
    replace o_e := o_e.below d
    replace o_m := o_m.below d
    replace o_a := o_a.below d
    replace hb := below_after hb d
    clear d
    clear H1
    rw [← unhide HNXD] at o_b ⊢
    go_wp2_with fail
    refine (samei_any _ _ _ _ _ _ _ _ XD _ o_a.reads o_b.reads (by omega)).mono ?_
    rintro e w12 ⟨rfl, d0⟩
    have d := d0.below w11.heap.size
    clear d0
    replace o_p := o_p.below d
    replace o_e := o_e.below d
    replace o_m := o_m.below d
    replace o_a := o_a.below d
    replace o_b := o_b.below d
    replace hb := below_after hb d
    clear d
    clear o_a
    clear o_b
    obtain ⟨XR, hXR⟩ : ∃ X, X = plR (gR p) p := ⟨_, rfl⟩
    obtain ⟨nXR, hnXR⟩ : ∃ n, n = XR.length := ⟨_, rfl⟩
    have lXR : nXR ≤ 46 := by rw [hnXR, hXR]; have := plR_le (gR p) p; omega
    have HXR := hide hXR
    have HNXR := hide hnXR
    clear hXR hnXR
    have H1 := hide (irec_any A_p _ c_p _ p w12 ((unhide l_p).arg o_p (by omega)))
    rw [← unhide HXR] at H1
    go_wp2_with fail
    refine (unhide H1).mono ?_
    rintro e w13 ⟨A_a, c_a, rfl, o_a, d⟩
    replace o_p := o_p.below d
    replace o_e := o_e.below d
    replace o_m := o_m.below d
    replace hb := below_after hb d
    clear d
    clear H1
    rw [← unhide HNXR] at o_a ⊢
    have H1 := hide (srec_any A_p _ c_p _ p w13 ((unhide l_p).arg o_p (by omega)))
    rw [← unhide HXR] at H1
    go_wp2_with fail
    refine (unhide H1).mono ?_
    rintro e w14 ⟨A_b, c_b, rfl, o_b, d⟩
    replace o_p := o_p.below d
    replace o_e := o_e.below d
    replace o_m := o_m.below d
    replace o_a := o_a.below d
    replace hb := below_after hb d
    clear d
    clear H1
    rw [← unhide HNXR] at o_b ⊢
    go_wp2_with fail
    refine (samei_any _ _ _ _ _ _ _ _ XR _ o_a.reads o_b.reads (by omega)).mono ?_
    rintro e w15 ⟨rfl, d0⟩
    have d := d0.below w14.heap.size
    clear d0
    replace o_p := o_p.below d
    replace o_e := o_e.below d
    replace o_m := o_m.below d
    replace o_a := o_a.below d
    replace o_b := o_b.below d
    replace hb := below_after hb d
    clear d
    clear o_a
    clear o_b
    obtain ⟨XL, hXL⟩ : ∃ X, X = plR (gL p) p := ⟨_, rfl⟩
    obtain ⟨nXL, hnXL⟩ : ∃ n, n = XL.length := ⟨_, rfl⟩
    have lXL : nXL ≤ 46 := by rw [hnXL, hXL]; have := plR_le (gL p) p; omega
    have HXL := hide hXL
    have HNXL := hide hnXL
    clear hXL hnXL
    have H1 := hide (ilow_any A_p _ c_p _ p w15 ((unhide l_p).arg o_p (by omega)))
    rw [← unhide HXL] at H1
    go_wp2_with fail
    refine (unhide H1).mono ?_
    rintro e w16 ⟨A_a, c_a, rfl, o_a, d⟩
    replace o_p := o_p.below d
    replace o_e := o_e.below d
    replace o_m := o_m.below d
    replace hb := below_after hb d
    clear d
    clear H1
    rw [← unhide HNXL] at o_a ⊢
    have H1 := hide (slow_any A_p _ c_p _ p w16 ((unhide l_p).arg o_p (by omega)))
    rw [← unhide HXL] at H1
    go_wp2_with fail
    refine (unhide H1).mono ?_
    rintro e w17 ⟨A_b, c_b, rfl, o_b, d⟩
    replace o_p := o_p.below d
    replace o_e := o_e.below d
    replace o_m := o_m.below d
    replace o_a := o_a.below d
    replace hb := below_after hb d
    clear d
    clear H1
    rw [← unhide HNXL] at o_b ⊢
    go_wp2_with fail
    refine (samei_any _ _ _ _ _ _ _ _ XL _ o_a.reads o_b.reads (by omega)).mono ?_
    rintro e w18 ⟨rfl, d0⟩
    have d := d0.below w17.heap.size
    clear d0
    replace o_p := o_p.below d
    replace o_e := o_e.below d
    replace o_m := o_m.below d
    replace o_a := o_a.below d
    replace o_b := o_b.below d
    replace hb := below_after hb d
    clear d
    clear o_a
    clear o_b
    obtain ⟨z3, hz3⟩ : ∃ z, z = cnR (gF p) p := ⟨_, rfl⟩
    have Hz3 := hide hz3
    clear hz3
    have H1 := hide (ifix_any A_p _ c_p _ p w18 ((unhide l_p).arg o_p (by omega)))
    rw [← unhide Hz3] at H1
    go_wp2_with fail
    refine (unhide H1).mono ?_
    rintro e w19 ⟨rfl, d⟩
    replace o_p := o_p.below d
    replace o_e := o_e.below d
    replace o_m := o_m.below d
    replace hb := below_after hb d
    clear d
    clear H1
    have H1 := hide (sfix_any A_p _ c_p _ p w19 ((unhide l_p).arg o_p (by omega)))
    rw [← unhide Hz3] at H1
    go_wp2_with fail
    refine (unhide H1).mono ?_
    rintro e w20 ⟨rfl, d⟩
    replace o_p := o_p.below d
    replace o_e := o_e.below d
    replace o_m := o_m.below d
    replace hb := below_after hb d
    clear d
    clear H1
    obtain ⟨z4, hz4⟩ : ∃ z, z = cnR (gU p) p := ⟨_, rfl⟩
    have Hz4 := hide hz4
    clear hz4
    have H1 := hide (irise_any A_p _ c_p _ p w20 ((unhide l_p).arg o_p (by omega)))
    rw [← unhide Hz4] at H1
    go_wp2_with fail
    refine (unhide H1).mono ?_
    rintro e w21 ⟨rfl, d⟩
    replace o_p := o_p.below d
    replace o_e := o_e.below d
    replace o_m := o_m.below d
    replace hb := below_after hb d
    clear d
    clear H1
    have H1 := hide (srise_any A_p _ c_p _ p w21 ((unhide l_p).arg o_p (by omega)))
    rw [← unhide Hz4] at H1
    go_wp2_with fail
    refine (unhide H1).mono ?_
    rintro e w22 ⟨rfl, d⟩
    replace o_p := o_p.below d
    replace o_e := o_e.below d
    replace o_m := o_m.below d
    replace hb := below_after hb d
    clear d
    clear H1
    obtain ⟨z5, hz5⟩ : ∃ z, z = cycR p := ⟨_, rfl⟩
    have Hz5 := hide hz5
    clear hz5
    have H1 := hide (icyc_any A_p _ c_p _ p w22 ((unhide l_p).arg o_p (by omega)))
    rw [← unhide Hz5] at H1
    go_wp2_with fail
    refine (unhide H1).mono ?_
    rintro e w23 ⟨rfl, d⟩
    replace o_p := o_p.below d
    replace o_e := o_e.below d
    replace o_m := o_m.below d
    replace hb := below_after hb d
    clear d
    clear H1
    have H1 := hide (scyc_any A_p _ c_p _ p w23 ((unhide l_p).arg o_p (by omega)))
    rw [← unhide Hz5] at H1
    go_wp2_with fail
    refine (unhide H1).mono ?_
    rintro e w24 ⟨rfl, d⟩
    replace o_p := o_p.below d
    replace o_e := o_e.below d
    replace o_m := o_m.below d
    replace hb := below_after hb d
    clear d
    clear H1
    clear o_p
    have H1 := hide (seul_any n1 (by omega) w24)
    rw [← unhide HE] at H1
    go_wp2_with fail
    refine (unhide H1).mono ?_
    rintro e w25 ⟨A_a, c_a, rfl, o_a, d⟩
    replace o_e := o_e.below d
    replace o_m := o_m.below d
    replace hb := below_after hb d
    clear d
    clear H1
    rw [← unhide HNE] at o_a ⊢
    go_wp2_with fail
    refine (samei_any _ _ _ _ _ _ _ _ E _ o_e.reads o_a.reads (by omega)).mono ?_
    rintro e w26 ⟨rfl, d0⟩
    have d := d0.below w25.heap.size
    clear d0
    replace o_e := o_e.below d
    replace o_m := o_m.below d
    replace o_a := o_a.below d
    replace hb := below_after hb d
    clear d
    clear o_a
    have H1 := hide (smah_any k1 (by omega) w26)
    rw [← unhide HM] at H1
    go_wp2_with fail
    refine (unhide H1).mono ?_
    rintro e w27 ⟨A_a, c_a, rfl, o_a, d⟩
    replace o_e := o_e.below d
    replace o_m := o_m.below d
    replace hb := below_after hb d
    clear d
    clear H1
    rw [← unhide HNM] at o_a ⊢
    go_wp2_with fail
    refine (samei_any _ _ _ _ _ _ _ _ M _ o_m.reads o_a.reads (by omega)).mono ?_
    rintro e w28 ⟨rfl, d0⟩
    have d := d0.below w27.heap.size
    clear d0
    replace o_e := o_e.below d
    replace o_m := o_m.below d
    replace o_a := o_a.below d
    replace hb := below_after hb d
    clear d
    clear o_a
    obtain ⟨i0, hi, hz0, hz1, hz2⟩ := info_parts intInfo
    obtain ⟨bb, hbb⟩ : ∃ b, b = decide (1 ≤ n1 ∧ n1 ≤ 5) := ⟨_, rfl⟩
    have HBB := hide hbb
    clear hbb
    go_upto_region 10 with fail
    go_cut [104] from 99 to 104 (fun b9 wx => b9 = .bool bb ∧ wx = w28)
    case first =>
      by_cases hn0 : 1 ≤ n1
      · by_cases hn6 : n1 ≤ 5
        · have hv : decide (n1 ≤ 5) = true := decide_eq_true hn6
          have hv0 : decide (1 ≤ n1) = true := decide_eq_true hn0
          go_wp2_with fail
          go_meet
          exact ⟨by rw [unhide HBB, decide_eq_true ⟨hn0, hn6⟩], rfl⟩
        · have hv : decide (n1 ≤ 5) = false := decide_eq_false hn6
          have hv0 : decide (1 ≤ n1) = true := decide_eq_true hn0
          go_wp2_with fail
          go_meet
          exact ⟨by rw [unhide HBB, decide_eq_false (by omega)], rfl⟩
      · have hv0 : decide (1 ≤ n1) = false := decide_eq_false hn0
        go_wp2_with fail
        go_meet
        exact ⟨by rw [unhide HBB, decide_eq_false (by omega)], rfl⟩
    case rest =>
    obtain ⟨rfl, hwv⟩ := hcut
    rw [hwv]
    clear hwv
    go_upto_if 104 with fail
    go_cut [8, 9, 10, 11] from 105 to 160 (fun _ _ _ _ wx => Below w28.heap.size w28 wx)
    case first =>
      replace hb := Below.refl w28.heap.size w28
      cases bb with
      | false =>
        go_wp2_with fail
        go_meet
        exact hb
      | true =>
        have hnn : 1 ≤ n1 ∧ n1 ≤ 5 := of_decide_eq_true (unhide HBB).symm
        clear o_m
        obtain ⟨k, rfl⟩ : ∃ k : Nat, n1 = (k : Int) := ⟨n1.toNat, by omega⟩
        have hk1 : 1 ≤ k := by omega
        have hk5 : k ≤ 5 := by omega
        have H1 := hide (fun w9 => by have h5 := sperms_any ((k : Nat) : Int) (by omega) w9; rw [permsR_yes (by omega)] at h5; exact h5 : ∀ w9, Calls Try.prog 39 #[.int .i64 (k : Int)] w9 (GivesSS w9 (permL k)))
        have hLs := (permL_small k (by omega)).1
        have HT := hide (⟨(stat_dn hk1 hk5).trans (unhide HE).symm, (stat_up hk1 hk5).trans (unhide HE).symm⟩ : _ ∧ _)
        have HPP := hide (fun (j : Nat) (z : List Int) (hz : (permL k)[j]? = some z) => stat_lt hk1 hk5 (List.mem_of_getElem? hz))
        obtain ⟨Z1, hZ⟩ : ∃ Z, Z = permL k := ⟨_, rfl⟩
        rw [← hZ] at H1 hLs HT HPP
        obtain ⟨N1, hN⟩ : ∃ N, N = Z1.length := ⟨_, rfl⟩
        rw [← hN] at hLs HT
        have HNN := hide hN
        clear hZ hN
        go_wp2_with (first
          | (at_make; refine wpList_make_full _ rfl (.tmp 105) (.tmp 105) 24 rfl w28.heap.size 3 i0 (.int .i64 0) 1 Try.underlying24 hi hz0 hz1 _ _ _ _ k rfl rfl (by first | rfl | omega) (by first | rfl | omega) (by rw [hz2]; omega) (by unfold maxLen; omega) (Nat.le_refl _) ?_; intro w100 o1 g1)
          | (at_make; refine wpList_make_full _ rfl (.tmp 107) (.tmp 107) 24 rfl w100.heap.size 3 i0 (.int .i64 0) 1 Try.underlying24 hi hz0 hz1 _ _ _ _ k rfl rfl (by first | rfl | omega) (by first | rfl | omega) (by rw [hz2]; omega) (by unfold maxLen; omega) (Nat.le_refl _) ?_; intro w101 o2 g2))
        refine (unhide H1 _).mono ?_
        rintro e w102 ⟨A9, c9, rfl, o9, d9⟩
        clear H1
        rw [made_zeros k] at o1 o2
        have b1 : Below w28.heap.size w28 w100 := (Below.refl _ _).grown g1 (Nat.le_refl _) (by simp)
        have b2 : Below w100.heap.size w100 w101 := (Below.refl _ _).grown g2 (Nat.le_refl _) (by simp)
        have s0 := hb.size
        have s1 := (o1.lt _ rfl).2
        have s2 := (o2.lt _ rfl).2
        replace o1 := own_below (own_below o1 b2) d9
        replace o2 := own_below o2 d9
        have bw : Below w28.heap.size w28 w102 := (b1.trans (b2.mono b1.size)).trans (d9.mono (Nat.le_trans b1.size b2.size))
        rw [← unhide HNN] at o9 ⊢
        have HB := hide hb
        clear b1 b2 g1 g2 d9 hb
        obtain ⟨D1, hD⟩ : ∃ D, D = w28.heap.size := ⟨_, rfl⟩
        obtain ⟨G1, hG⟩ : ∃ G, G = w100.heap.size := ⟨_, rfl⟩
        obtain ⟨B9, hB9⟩ : ∃ B, B = w101.heap.size := ⟨_, rfl⟩
        rw [← hD] at o1 bw s1 s0 ⊢
        rw [← hG] at o2 s1 s2 ⊢
        rw [← hB9] at o9 s2
        have HD := hide hD
        clear hD hG hB9
        go_wp2
        go_loopw [11] (fun i wr => ∃ j : Nat, j ≤ N1 ∧ i = .int .i64 j ∧ Below D1 w28 wr ∧ wr.ownsRow D1 3 1 (.slice (some ⟨D1, 0, none⟩) k k) k (i64s (tl fDn Z1 k j)) ∧ wr.ownsRow G1 3 1 (.slice (some ⟨G1, 0, none⟩) k k) k (i64s (tl fUp Z1 k j)) ∧ IntsS wr B9 (.slice A9 N1 c9) Z1) (fun i _ => N1 - (intOf i).toNat)
        case atStart => exact ⟨0, Nat.zero_le _, rfl, bw, o1, o2, o9⟩
        case round =>
          obtain ⟨j, hj, rfl, hd, h1, h2, h9⟩ := hrel
          clear bw o1 o2 o9
          by_cases hlt : j < N1
          · obtain ⟨ad, A6, c6, z, rfl, hz, hcell, hI⟩ := h9.at_ hlt
            obtain ⟨d, hd_⟩ : ∃ d, d = fDn z := ⟨_, rfl⟩
            have hdk : d < k := by rw [hd_]; exact (unhide HPP j z hz).2.1
            have hst := hide (tl_step (f := fDn) (n := k) hz)
            have q0 : wr.cell? ⟨D1, d, none⟩ = some (.int .i64 (at0 (tl fDn Z1 k j) d)) := by rw [h1.cellAt d (by omega), i64_get (at0_some (by rw [tl_length]; exact hdk))]
            have fz := h1.frozenAt d
            have hDl : D1 < wr.heap.size := (h1.lt D1 rfl).2
            have htl := tl_le fDn Z1 k j d
            have HC := hide (fun (w' : World) (hb' : Below wr.heap.size wr w') => cDn A6 _ c6 _ z (unhide HPP j z hz).1 w' ((hI.argP (unhide HPP j z hz).1).below hb'))
            rw [← hd_] at HC hst
            obtain ⟨t, ht⟩ : ∃ t, t = at0 (tl fDn Z1 k j) d := ⟨_, rfl⟩
            rw [← ht] at q0 htl hst
            obtain ⟨lz, hlz⟩ : ∃ l, l = z.length := ⟨_, rfl⟩
            rw [← hlz] at HC hcell
            have HLZ := hide hlz
            have HHD := hide (⟨hd, h1, h2, h9, hI⟩ : _ ∧ _ ∧ _ ∧ _ ∧ _)
            have HZZ := hide hz
            clear hd_ ht hlz hd h1 h2 h9 hI hz
            have ht0 : 0 ≤ t := htl.1
            have ht1 : t ≤ 1000 := by omega
            have hdk2 : (d : Int) < (k : Int) := by omega
            clear htl
            have hwt := hide (show IntKind.i64.wrap (t + 1) = t + 1 by rw [IntKind.wrap_i64]; omega)
            go_upto_region 17 with fail
            go_cut [] from 111 to 150 (fun wx => ∃ w5, Below wr.heap.size wr w5 ∧ (wx = w5.setCell ⟨D1, d, none⟩ (.int .i64 (t + 1)) ∨ wx = (w5.setCell ⟨D1, d, none⟩ (.int .i64 (t + 1))).drew))
            case first =>
              have b0 := (Below.refl wr.heap.size wr).drew
              go_region_law (first | (have g := b0; clear b0; go_simp; go_at_call 25; refine (unhide HC _ g).mono ?_; rintro e w4 ⟨A4, c4, rfl, d4⟩; have b1 := below_after g d4; have q4 := (b1.cell (p := ⟨D1, d, none⟩) hDl).trans q0; have f4 := (b1.frozen (p := ⟨D1, d, none⟩) hDl).trans fz; have a4 := (b1.cell (p := _) (World.block_lt_of_cell? _ _ hcell)).trans hcell; clear g d4) | (have g := b1; clear b1; go_simp; go_at_call 25; refine (unhide HC _ g).mono ?_; rintro e w4 ⟨A4, c4, rfl, d4⟩; have b2 := below_after g d4; have q4 := (b2.cell (p := ⟨D1, d, none⟩) hDl).trans q0; have f4 := (b2.frozen (p := ⟨D1, d, none⟩) hDl).trans fz; have a4 := (b2.cell (p := _) (World.block_lt_of_cell? _ _ hcell)).trans hcell; clear g d4))
              all_goals
                go_wp2_with fail
                go_meet
                exact ⟨_, b2, .inl (by rw [unhide hwt])⟩
            case rest =>
            obtain ⟨w5, hb5, hw5⟩ := hcut
            obtain ⟨hd, h1, h2, h9, hI⟩ := unhide HHD
            have hz := unhide HZZ
            obtain ⟨k1_, g3, d3⟩ := stored_round h1 hb5 hd (Nat.le_refl _) hw5
            rw [unhide hst] at k1_
            have k2_ := own_drawn h2 g3 (by omega)
            have k9_ := h9.drawn g3 (by omega)
            clear h1 h2 h9 hd hI hw5 hb5 g3 HHD HZZ hcell q0 fz hst HC HLZ hDl
            obtain ⟨wr, rfl⟩ : ∃ wr : World, wr = wc := ⟨_, rfl⟩
            have hd := d3
            have h1 := k1_
            have h2 := k2_
            have h9 := k9_
            clear d3 k1_ k2_ k9_
            obtain ⟨ad2, A6, c6, z2, hade, hz2_, hcell, hI⟩ := h9.at_ hlt
            obtain rfl : ad = ad2 := Option.some.inj hade
            obtain rfl : z = z2 := Option.some.inj (hz.symm.trans hz2_)
            clear hade hz2_
            obtain ⟨d, hd_⟩ : ∃ d, d = fUp z := ⟨_, rfl⟩
            have hdk : d < k := by rw [hd_]; exact (unhide HPP j z hz).2.2
            have hst := hide (tl_step (f := fUp) (n := k) hz)
            have q0 : wr.cell? ⟨G1, d, none⟩ = some (.int .i64 (at0 (tl fUp Z1 k j) d)) := by rw [h2.cellAt d (by omega), i64_get (at0_some (by rw [tl_length]; exact hdk))]
            have fz := h2.frozenAt d
            have hDl : G1 < wr.heap.size := (h2.lt G1 rfl).2
            have htl := tl_le fUp Z1 k j d
            have HC := hide (fun (w' : World) (hb' : Below wr.heap.size wr w') => cUp A6 _ c6 _ z (unhide HPP j z hz).1 w' ((hI.argP (unhide HPP j z hz).1).below hb'))
            rw [← hd_] at HC hst
            obtain ⟨t, ht⟩ : ∃ t, t = at0 (tl fUp Z1 k j) d := ⟨_, rfl⟩
            rw [← ht] at q0 htl hst
            obtain ⟨lz, hlz⟩ : ∃ l, l = z.length := ⟨_, rfl⟩
            rw [← hlz] at HC hcell
            have HLZ := hide hlz
            have HHD := hide (⟨hd, h1, h2, h9, hI⟩ : _ ∧ _ ∧ _ ∧ _ ∧ _)
            have HZZ := hide hz
            clear hd_ ht hlz hd h1 h2 h9 hI hz
            have ht0 : 0 ≤ t := htl.1
            have ht1 : t ≤ 1000 := by omega
            have hdk2 : (d : Int) < (k : Int) := by omega
            clear htl
            have hwt := hide (show IntKind.i64.wrap (t + 1) = t + 1 by rw [IntKind.wrap_i64]; omega)
            have b0 := (Below.refl wr.heap.size wr).drew
            go_upto_region 18 with fail
            go_region_law (first | (have g := b0; clear b0; go_simp; go_at_call 33; refine (unhide HC _ g).mono ?_; rintro e w4 ⟨rfl, d4⟩; have b1 := below_after g d4; have q4 := (b1.cell (p := ⟨G1, d, none⟩) hDl).trans q0; have f4 := (b1.frozen (p := ⟨G1, d, none⟩) hDl).trans fz; have a4 := (b1.cell (p := _) (World.block_lt_of_cell? _ _ hcell)).trans hcell; clear g d4) | (have g := b1; clear b1; go_simp; go_at_call 33; refine (unhide HC _ g).mono ?_; rintro e w4 ⟨rfl, d4⟩; have b2 := below_after g d4; have q4 := (b2.cell (p := ⟨G1, d, none⟩) hDl).trans q0; have f4 := (b2.frozen (p := ⟨G1, d, none⟩) hDl).trans fz; have a4 := (b2.cell (p := _) (World.block_lt_of_cell? _ _ hcell)).trans hcell; clear g d4))
            all_goals
              have hb5 := b2
              obtain ⟨hd, h1, h2, h9, hI⟩ := unhide HHD
              obtain ⟨wx, hwx⟩ : ∃ wx, wx = w4.setCell ⟨G1, d, none⟩ (.int .i64 (t + 1)) := ⟨_, rfl⟩
              obtain ⟨k2_, g3, d3⟩ := stored_round h2 hb5 hd (by omega) (.inl hwx)
              rw [unhide hst] at k2_
              have k1_ := h1.kept g3 (.inr (by simp [Value.ownBlock]; omega))
              have k9_ := h9.drawn g3 (by omega)
              rw [unhide hwt, ← hwx]
              clear h1 h2 h9 hd hI hb5 g3 HHD HZZ hcell q0 fz hst HC HLZ hDl hwx b2 q4 f4 a4 hwt ht0 ht1
              go_wp2
              go_roundw
              case rel => exact ⟨j + 1, by omega, by go_num, d3, k1_, k2_, k9_⟩
              case measure => simp [intOf]; omega
          · obtain rfl : j = N1 := by omega
            rw [(unhide HT).1] at h1
            rw [(unhide HT).2] at h2
            have o_x : Ints wr D1 (.slice (some ⟨D1, 0, none⟩) k k) E := Ints.of_own h1
            have o_y : Ints wr G1 (.slice (some ⟨G1, 0, none⟩) k k) E := Ints.of_own h2
            obtain ⟨w109, rfl⟩ : ∃ w : World, w = wr := ⟨_, rfl⟩
            have d : Below w28.heap.size w28 w109 := by rw [← unhide HD]; exact hd
            replace o_e := o_e.below d
            have hb := below_after (unhide HB) d
            clear d hd h1 h2 h9 HT HPP HB
            go_wp2_with fail
            refine (samei_any _ _ _ _ _ _ _ _ E _ o_x.reads o_e.reads (by omega)).mono ?_
            rintro e w110 ⟨rfl, d0⟩
            have d := d0.below w109.heap.size
            clear d0
            replace o_e := o_e.below d
            replace o_x := o_x.below d
            replace o_y := o_y.below d
            replace hb := below_after hb d
            clear d
            go_wp2_with fail
            refine (samei_any _ _ _ _ _ _ _ _ E _ o_y.reads o_e.reads (by omega)).mono ?_
            rintro e w111 ⟨rfl, d0⟩
            have d := d0.below w110.heap.size
            clear d0
            replace o_e := o_e.below d
            replace o_x := o_x.below d
            replace o_y := o_y.below d
            replace hb := below_after hb d
            clear d
            clear o_x
            clear o_y
            go_wp2_with fail
            go_meet
            exact hb
    case rest =>
    obtain ⟨w60, hwv⟩ : ∃ w60 : World, w60 = wc := ⟨_, rfl⟩
    rw [← hwv] at hcut ⊢
    clear hwv
    have d := hcut
    clear hcut
    replace o_e := o_e.below d
    replace o_m := o_m.below d
    replace hb := below_after hb d
    clear d
    clear o_e
    by_cases hk0 : k1 < 1
    · skip
      go_wp2
      go_ret
      exact ⟨rfl, hb⟩
    by_cases hk6 : 5 < k1
    · skip
      have hk7 : ¬ k1 < 1 := hk0
      go_wp2
      go_ret
      exact ⟨rfl, hb⟩
    obtain ⟨k, rfl⟩ : ∃ k : Nat, k1 = (k : Int) := ⟨k1.toNat, by omega⟩
    have hk1 : 1 ≤ k := by omega
    have hk5 : k ≤ 5 := by omega
    have H1 := hide (fun w9 => by have h5 := sperms_any ((k : Nat) : Int) (by omega) w9; rw [permsR_yes (by omega)] at h5; exact h5 : ∀ w9, Calls Try.prog 39 #[.int .i64 (k : Int)] w9 (GivesSS w9 (permL k)))
    have hLs := (permL_small k (by omega)).1
    have HT := hide (⟨(stat_in hk1 hk5).trans (unhide HM).symm, (stat_mj hk1 hk5).trans (unhide HM).symm⟩ : _ ∧ _)
    have HPP := hide (fun (j : Nat) (z : List Int) (hz : (permL k)[j]? = some z) => stat_lt2 hk1 hk5 (List.mem_of_getElem? hz))
    obtain ⟨Z2, hZ⟩ : ∃ Z, Z = permL k := ⟨_, rfl⟩
    rw [← hZ] at H1 hLs HT HPP
    obtain ⟨N2, hN⟩ : ∃ N, N = Z2.length := ⟨_, rfl⟩
    rw [← hN] at hLs HT
    have HNN := hide hN
    clear hZ hN
    obtain ⟨P, hP⟩ : ∃ P, P = k * (k - 1) := ⟨_, rfl⟩
    have hP20 : P ≤ 20 := by rw [hP]; exact Nat.mul_le_mul hk5 (show k - 1 ≤ 4 by omega)
    have hPi : (k : Int) * ((k : Int) - 1) = (P : Int) := by rw [hP, Int.natCast_mul, Int.natCast_sub hk1]; rfl
    obtain ⟨Q, hQ⟩ : ∃ Q, Q = P / 2 := ⟨_, rfl⟩
    obtain ⟨n2, hn2⟩ : ∃ n, n = Q + 1 := ⟨_, rfl⟩
    rw [← hP, ← hQ, ← hn2] at HT HPP
    have m1 : IntKind.i64.wrap ((k : Int) * ((k : Int) - 1)) = (P : Int) := by rw [hPi, IntKind.wrap_i64]; omega
    have m1b : IntKind.i64.wrap (P : Int) = (P : Int) := by rw [IntKind.wrap_i64]; omega
    have m2 : (P : Int).tdiv 2 = (Q : Int) := by rw [Int.tdiv_eq_ediv_of_nonneg (by omega)]; omega
    have m2b : IntKind.i64.wrap (Q : Int) = (Q : Int) := by rw [IntKind.wrap_i64]; omega
    have m3 : IntKind.i64.wrap ((Q : Int) + 1) = (n2 : Int) := by rw [IntKind.wrap_i64]; omega
    have m3b : (Q : Int) + 1 = (n2 : Int) := by omega
    have hn20 : n2 ≤ 20 := by omega
    have HM := hide (⟨hP, hQ, hn2⟩ : _ ∧ _ ∧ _)
    clear hP hQ hn2
    go_wp2_with (first
      | (at_make; refine wpList_make_full _ rfl (.tmp 172) (.tmp 172) 24 rfl w60.heap.size 3 i0 (.int .i64 0) 1 Try.underlying24 hi hz0 hz1 _ _ _ _ n2 rfl rfl (by first | rfl | omega) (by first | rfl | omega) (by rw [hz2]; omega) (by unfold maxLen; omega) (Nat.le_refl _) ?_; intro w200 o1 g1)
      | (at_make; refine wpList_make_full _ rfl (.tmp 179) (.tmp 179) 24 rfl w200.heap.size 3 i0 (.int .i64 0) 1 Try.underlying24 hi hz0 hz1 _ _ _ _ n2 rfl rfl (by first | rfl | omega) (by first | rfl | omega) (by rw [hz2]; omega) (by unfold maxLen; omega) (Nat.le_refl _) ?_; intro w201 o2 g2))
    refine (unhide H1 _).mono ?_
    rintro e w202 ⟨A9, c9, rfl, o9, d9⟩
    clear H1
    rw [made_zeros n2] at o1 o2
    have b1 : Below w60.heap.size w60 w200 := (Below.refl _ _).grown g1 (Nat.le_refl _) (by simp)
    have b2 : Below w200.heap.size w200 w201 := (Below.refl _ _).grown g2 (Nat.le_refl _) (by simp)
    have s0 := hb.size
    have s1 := (o1.lt _ rfl).2
    have s2 := (o2.lt _ rfl).2
    replace o1 := own_below (own_below o1 b2) d9
    replace o2 := own_below o2 d9
    have bw : Below w60.heap.size w60 w202 := (b1.trans (b2.mono b1.size)).trans (d9.mono (Nat.le_trans b1.size b2.size))
    rw [← unhide HNN] at o9 ⊢
    have HB := hide hb
    clear b1 b2 g1 g2 d9 hb
    obtain ⟨D2, hD⟩ : ∃ D, D = w60.heap.size := ⟨_, rfl⟩
    obtain ⟨G2, hG⟩ : ∃ G, G = w200.heap.size := ⟨_, rfl⟩
    obtain ⟨B9, hB9⟩ : ∃ B, B = w201.heap.size := ⟨_, rfl⟩
    rw [← hD] at o1 bw s1 s0 ⊢
    rw [← hG] at o2 s1 s2 ⊢
    rw [← hB9] at o9 s2
    have HD := hide hD
    clear hD hG hB9
    go_wp2
    go_loopw [15] (fun i wr => ∃ j : Nat, j ≤ N2 ∧ i = .int .i64 j ∧ Below D2 w60 wr ∧ wr.ownsRow D2 3 1 (.slice (some ⟨D2, 0, none⟩) n2 n2) n2 (i64s (tl fIn Z2 n2 j)) ∧ wr.ownsRow G2 3 1 (.slice (some ⟨G2, 0, none⟩) n2 n2) n2 (i64s (tl fMj Z2 n2 j)) ∧ IntsS wr B9 (.slice A9 N2 c9) Z2) (fun i _ => N2 - (intOf i).toNat)
    case atStart => exact ⟨0, Nat.zero_le _, rfl, bw, o1, o2, o9⟩
    case round =>
      obtain ⟨j, hj, rfl, hd, h1, h2, h9⟩ := hrel
      clear bw o1 o2 o9
      by_cases hlt : j < N2
      · obtain ⟨ad, A6, c6, z, rfl, hz, hcell, hI⟩ := h9.at_ hlt
        obtain ⟨d, hd_⟩ : ∃ d, d = fIn z := ⟨_, rfl⟩
        have hdk : d < n2 := by rw [hd_]; exact (unhide HPP j z hz).2.1
        have hst := hide (tl_step (f := fIn) (n := n2) hz)
        have q0 : wr.cell? ⟨D2, d, none⟩ = some (.int .i64 (at0 (tl fIn Z2 n2 j) d)) := by rw [h1.cellAt d (by omega), i64_get (at0_some (by rw [tl_length]; exact hdk))]
        have fz := h1.frozenAt d
        have hDl : D2 < wr.heap.size := (h1.lt D2 rfl).2
        have htl := tl_le fIn Z2 n2 j d
        have HC := hide (fun (w' : World) (hb' : Below wr.heap.size wr w') => cIn A6 _ c6 _ z (unhide HPP j z hz).1 w' ((hI.argP (unhide HPP j z hz).1).below hb'))
        rw [← hd_] at HC hst
        obtain ⟨t, ht⟩ : ∃ t, t = at0 (tl fIn Z2 n2 j) d := ⟨_, rfl⟩
        rw [← ht] at q0 htl hst
        obtain ⟨lz, hlz⟩ : ∃ l, l = z.length := ⟨_, rfl⟩
        rw [← hlz] at HC hcell
        have HLZ := hide hlz
        have HHD := hide (⟨hd, h1, h2, h9, hI⟩ : _ ∧ _ ∧ _ ∧ _ ∧ _)
        have HZZ := hide hz
        clear hd_ ht hlz hd h1 h2 h9 hI hz
        have ht0 : 0 ≤ t := htl.1
        have ht1 : t ≤ 1000 := by omega
        have hdk2 : (d : Int) < (n2 : Int) := by omega
        clear htl
        have hwt := hide (show IntKind.i64.wrap (t + 1) = t + 1 by rw [IntKind.wrap_i64]; omega)
        go_upto_region 29 with fail
        go_cut [] from 183 to 220 (fun wx => ∃ w5, Below wr.heap.size wr w5 ∧ (wx = w5.setCell ⟨D2, d, none⟩ (.int .i64 (t + 1)) ∨ wx = (w5.setCell ⟨D2, d, none⟩ (.int .i64 (t + 1))).drew))
        case first =>
          have b0 := (Below.refl wr.heap.size wr).drew
          go_region_law (first | (have g := b0; clear b0; go_simp; go_at_call 20; refine (unhide HC _ g).mono ?_; rintro e w4 ⟨rfl, d4⟩; have b1 := below_after g d4; have q4 := (b1.cell (p := ⟨D2, d, none⟩) hDl).trans q0; have f4 := (b1.frozen (p := ⟨D2, d, none⟩) hDl).trans fz; have a4 := (b1.cell (p := _) (World.block_lt_of_cell? _ _ hcell)).trans hcell; clear g d4) | (have g := b1; clear b1; go_simp; go_at_call 20; refine (unhide HC _ g).mono ?_; rintro e w4 ⟨rfl, d4⟩; have b2 := below_after g d4; have q4 := (b2.cell (p := ⟨D2, d, none⟩) hDl).trans q0; have f4 := (b2.frozen (p := ⟨D2, d, none⟩) hDl).trans fz; have a4 := (b2.cell (p := _) (World.block_lt_of_cell? _ _ hcell)).trans hcell; clear g d4))
          all_goals
            go_wp2_with fail
            go_meet
            exact ⟨_, b2, .inl (by rw [unhide hwt])⟩
        case rest =>
        obtain ⟨w5, hb5, hw5⟩ := hcut
        obtain ⟨hd, h1, h2, h9, hI⟩ := unhide HHD
        have hz := unhide HZZ
        obtain ⟨k1_, g3, d3⟩ := stored_round h1 hb5 hd (Nat.le_refl _) hw5
        rw [unhide hst] at k1_
        have k2_ := own_drawn h2 g3 (by omega)
        have k9_ := h9.drawn g3 (by omega)
        clear h1 h2 h9 hd hI hw5 hb5 g3 HHD HZZ hcell q0 fz hst HC HLZ hDl
        obtain ⟨wr, rfl⟩ : ∃ wr : World, wr = wc := ⟨_, rfl⟩
        have hd := d3
        have h1 := k1_
        have h2 := k2_
        have h9 := k9_
        clear d3 k1_ k2_ k9_
        obtain ⟨ad2, A6, c6, z2, hade, hz2_, hcell, hI⟩ := h9.at_ hlt
        obtain rfl : ad = ad2 := Option.some.inj hade
        obtain rfl : z = z2 := Option.some.inj (hz.symm.trans hz2_)
        clear hade hz2_
        obtain ⟨d, hd_⟩ : ∃ d, d = fMj z := ⟨_, rfl⟩
        have hdk : d < n2 := by rw [hd_]; exact (unhide HPP j z hz).2.2
        have hst := hide (tl_step (f := fMj) (n := n2) hz)
        have q0 : wr.cell? ⟨G2, d, none⟩ = some (.int .i64 (at0 (tl fMj Z2 n2 j) d)) := by rw [h2.cellAt d (by omega), i64_get (at0_some (by rw [tl_length]; exact hdk))]
        have fz := h2.frozenAt d
        have hDl : G2 < wr.heap.size := (h2.lt G2 rfl).2
        have htl := tl_le fMj Z2 n2 j d
        have HC := hide (fun (w' : World) (hb' : Below wr.heap.size wr w') => cMj A6 _ c6 _ z (unhide HPP j z hz).1 w' ((hI.argP (unhide HPP j z hz).1).below hb'))
        rw [← hd_] at HC hst
        obtain ⟨t, ht⟩ : ∃ t, t = at0 (tl fMj Z2 n2 j) d := ⟨_, rfl⟩
        rw [← ht] at q0 htl hst
        obtain ⟨lz, hlz⟩ : ∃ l, l = z.length := ⟨_, rfl⟩
        rw [← hlz] at HC hcell
        have HLZ := hide hlz
        have HHD := hide (⟨hd, h1, h2, h9, hI⟩ : _ ∧ _ ∧ _ ∧ _ ∧ _)
        have HZZ := hide hz
        clear hd_ ht hlz hd h1 h2 h9 hI hz
        have ht0 : 0 ≤ t := htl.1
        have ht1 : t ≤ 1000 := by omega
        have hdk2 : (d : Int) < (n2 : Int) := by omega
        clear htl
        have hwt := hide (show IntKind.i64.wrap (t + 1) = t + 1 by rw [IntKind.wrap_i64]; omega)
        have b0 := (Below.refl wr.heap.size wr).drew
        go_upto_region 30 with fail
        go_region_law (first | (have g := b0; clear b0; go_simp; go_at_call 22; refine (unhide HC _ g).mono ?_; rintro e w4 ⟨rfl, d4⟩; have b1 := below_after g d4; have q4 := (b1.cell (p := ⟨G2, d, none⟩) hDl).trans q0; have f4 := (b1.frozen (p := ⟨G2, d, none⟩) hDl).trans fz; have a4 := (b1.cell (p := _) (World.block_lt_of_cell? _ _ hcell)).trans hcell; clear g d4) | (have g := b1; clear b1; go_simp; go_at_call 22; refine (unhide HC _ g).mono ?_; rintro e w4 ⟨rfl, d4⟩; have b2 := below_after g d4; have q4 := (b2.cell (p := ⟨G2, d, none⟩) hDl).trans q0; have f4 := (b2.frozen (p := ⟨G2, d, none⟩) hDl).trans fz; have a4 := (b2.cell (p := _) (World.block_lt_of_cell? _ _ hcell)).trans hcell; clear g d4))
        all_goals
          have hb5 := b2
          obtain ⟨hd, h1, h2, h9, hI⟩ := unhide HHD
          obtain ⟨wx, hwx⟩ : ∃ wx, wx = w4.setCell ⟨G2, d, none⟩ (.int .i64 (t + 1)) := ⟨_, rfl⟩
          obtain ⟨k2_, g3, d3⟩ := stored_round h2 hb5 hd (by omega) (.inl hwx)
          rw [unhide hst] at k2_
          have k1_ := h1.kept g3 (.inr (by simp [Value.ownBlock]; omega))
          have k9_ := h9.drawn g3 (by omega)
          rw [unhide hwt, ← hwx]
          clear h1 h2 h9 hd hI hb5 g3 HHD HZZ hcell q0 fz hst HC HLZ hDl hwx b2 q4 f4 a4 hwt ht0 ht1
          go_wp2
          go_roundw
          case rel => exact ⟨j + 1, by omega, by go_num, d3, k1_, k2_, k9_⟩
          case measure => simp [intOf]; omega
      · obtain rfl : j = N2 := by omega
        rw [(unhide HT).1] at h1
        rw [(unhide HT).2] at h2
        have o_x : Ints wr D2 (.slice (some ⟨D2, 0, none⟩) n2 n2) M := Ints.of_own h1
        have o_y : Ints wr G2 (.slice (some ⟨G2, 0, none⟩) n2 n2) M := Ints.of_own h2
        obtain ⟨w209, rfl⟩ : ∃ w : World, w = wr := ⟨_, rfl⟩
        have d : Below w60.heap.size w60 w209 := by rw [← unhide HD]; exact hd
        replace o_m := o_m.below d
        have hb := below_after (unhide HB) d
        clear d hd h1 h2 h9 HT HPP HB
        go_wp2_with fail
        refine (samei_any _ _ _ _ _ _ _ _ M _ o_x.reads o_m.reads (by omega)).mono ?_
        rintro e w210 ⟨rfl, d0⟩
        have d := d0.below w209.heap.size
        clear d0
        replace o_m := o_m.below d
        replace o_x := o_x.below d
        replace o_y := o_y.below d
        replace hb := below_after hb d
        clear d
        go_wp2_with fail
        refine (samei_any _ _ _ _ _ _ _ _ M _ o_y.reads o_m.reads (by omega)).mono ?_
        rintro e w211 ⟨rfl, d0⟩
        have d := d0.below w210.heap.size
        clear d0
        replace o_m := o_m.below d
        replace o_x := o_x.below d
        replace o_y := o_y.below d
        replace hb := below_after hb d
        clear d
        go_wp2
        go_ret
        exact ⟨rfl, hb⟩
  · rw [show decide (1048576 < n) = true from decide_eq_true (by omega)] at HG
    clear hr hn
    go_enter Try.func3, Try.ntmps3
    go_wp2_with fail
    refine (unhide HG).mono ?_
    rintro e w0 ⟨rfl, rfl⟩
    go_wp2
    go_ret
    exact ⟨rfl, Below.refl _ _⟩
theorem params_ok : ∀ t ∈ (#[22] : Array TypeId).toList, Try.prog.readableRec t = true ∧ t < Try.prog.types.size := by
  intro t ht
  simp only [List.mem_cons, List.not_mem_nil, or_false] at ht
  subst ht
  exact ⟨by kernel_rfl, of_decide_eq_true (by kernel_rfl)⟩

set_option maxRecDepth 100000 in
/-- WHAT THE WALK GIVES, FOR EVERY ARGUMENT. -/
theorem contract (H : Type) (enc : TypeId × Value → H) (W : World) (base : Nat) (args : Array Value) (ds gs : List (DataW H)) (before : List MemPlace)
    (hval : ∀ (j : Nat) t v, Try.f3.params[j]? = some t → args[j]? = some v → Value.okWide Try.prog W .any base t v)
    (hW : DataW.Whole enc Try.prog Try.f3.params.toList Rows.fnStatisticsSpec.vars false W args.toList ds gs before) :
    Calls Try.prog 3 args W fun e W' => ∃ v, e = .returned v ∧ Rows.fnStatisticsSpec.post enc Try.prog Try.f3 false true false false W args v W' := by
  have hW' := hW
  obtain ⟨p, q, hA0, hV, rfl, hfz, hnd⟩ := hW
  have hA : DataW.TrodAll enc Try.prog W 0 (fun _ => true) true Try.f3.params.toList args.toList ds p := hA0
  rw [Try.params3] at hA hval
  obtain ⟨v0, d0, rfl, rfl, h0⟩ := trodAll_one hA
  obtain ⟨rfl, rfl⟩ := trodVars_none hV
  obtain ⟨Abs, nbs, cbs, bs, rfl, hrbs, hnbs⟩ := open_bytes_reads Try.underlying22 Try.underlying5 cellsByte (hval 0 22 v0 rfl rfl) h0 (fun x hx => by simpa using hW'.lt x (by simp [hx]))
  refine (walk Abs nbs cbs bs W hrbs hnbs).mono fun e W' ⟨he, hb⟩ => ?_
  subst he
  exact ⟨_, rfl, law_end laidOut (by rw [Try.params3]; exact params_ok) Try.underlying4 rfl rfl hW' rfl hb⟩

set_option maxRecDepth 100000 in
theorem lifted (os : Os) (started : os.Started) (H : Type) (enc : TypeId × Value → H) :
    ReturnsInHanded {} Try.checked os 3 .any (Rows.fnStatisticsSpec.pre6 enc Try.prog Try.f3 Rows.fnStatisticsRow.domain false) (Rows.fnStatisticsSpec.post enc Try.prog Try.f3 false true false false) := by
  refine returnsInHanded_of_change (C := Try.checked) own started (by kernel_rfl) Try.func3
    (ChangeSpec.witness6 (enc := enc) (C := Try.checked) false ⟨#[], #[.slice none 0 0], []⟩ 8 (by kernel_rfl) (by kernel_rfl) (by kernel_rfl) (by kernel_rfl)) ?_
  intro W base args ds gs before hval hW _ _
  exact contract H enc W base args ds gs before hval hW

theorem proved : Rows.FnStatisticsSaid :=
  OpenClaim.holds_of_wide 3 Try.f3 rfl rfl rfl rfl rfl rfl rfl ⟨rfl, rfl, rfl, rfl, rfl⟩ rfl rfl rfl rfl rfl (by kernel_rfl) Try.func3 (by kernel_rfl)
    (of_decide_eq_true (by kernel_rfl)) (by unfold Func.isWrapper; first | (rw [if_pos (by decide +kernel)]; kernel_rfl) | (rw [if_neg (by decide +kernel)]; exact ⟨rfl, rfl⟩))
    (fun os started H enc _ => lifted os started H enc)
end Go.Proofs.Ytcnmnpbipencmaa.fnStatistics
