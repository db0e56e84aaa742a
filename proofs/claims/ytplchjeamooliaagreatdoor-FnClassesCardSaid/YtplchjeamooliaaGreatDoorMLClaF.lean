/-
  For every code the law FnClasses answers true and leaves its argument as it was: a class has every pattern of its permutations, and its basis is found again.
  Conditions: the variables of Go's library that the row lists hold what the program's text lays (the card ties that).
-/
import Derived.Test.YtplchjeamooliaaGreatDoorB10
import Derived.Test.YtplchjeamooliaaGreatDoorB11
import Derived.Test.YtplchjeamooliaaGreatDoorB7
import Derived.Test.YtplchjeamooliaaGreatDoorB12
import Derived.Test.YtplchjeamooliaaGreatDoorB5
import Derived.Deep.RegionHeld3


















namespace Go.Proofs.YtplchjeamooliaaGreatDoor.fnClasses
set_option maxRecDepth 100000
open Go.ChangeShapes Go.WideShapes Go.ChangeAt Go.RowKit

theorem pbR_rows (s : ByteArray) : (pbR s).length ≤ 8 ∧ tot (pbR s) ≤ 64 := by
  unfold pbR
  split
  · simp [tot]
  · rename_i h
    split
    · rename_i hk
      unfold pbOK at hk
      rw [if_neg h, Bool.and_eq_true] at hk
      have h1 := basis_le hk.2
      exact ⟨h1, by have := tot_room 8 _ (fun z hz => isP_le (basis_isP hk.2 z hz).1); omega⟩
    · simp [tot]
theorem clsO_N {L : List (List Int)} {k : Nat} (h : basis L = true) (hk : k ≤ 6) : clsO L (k : Int) = clsN L k := by rw [clsO_yes h hk, sift_all]; rfl
theorem clsN_le (L : List (List Int)) {k : Nat} (hk : k ≤ 6) : (clsN L k).length ≤ 1048576 := Nat.le_trans (List.length_filter_le _ _) (Nat.le_trans (permL_small k hk).1 (by omega))
theorem flat_le (L : List (List Int)) {k : Nat} (hk : k ≤ 7) : ((List.range k).flatMap (clsN L)).length ≤ 1048576 := by
  cases k with
  | zero => simp
  | succ n =>
    have h := clsU_len L (show n ≤ 6 by omega)
    rw [clsU_all] at h
    unfold allC at h
    omega
theorem range_next (L : List (List Int)) (k : Nat) : (List.range k).flatMap (clsN L) ++ clsN L k = (List.range (k + 1)).flatMap (clsN L) := by rw [List.range_succ, List.flatMap_append]; simp
set_option maxRecDepth 100000 in
set_option maxHeartbeats 25600000 in
theorem walk (A : Option Addr) (n c : Nat) (bs : List UInt8) (mx : Int) (w : World) (hr : Reads w w.heap.size A n (u8s bs)) (hn : n ≤ maxLen) (hm : w.cell? ⟨0, 0, none⟩ = some (.int .i64 mx)) :
    Calls Tryz.prog 3 #[.slice A n c] w fun e w' => e = .returned (.bool true) ∧ Below w.heap.size w w' := by
  unfold maxLen at hn
  have HG := hide (big_any A n c hn w)
  have hmb : 0 < w.heap.size := World.block_lt_of_cell? w _ hm
  have HM := hide (fun w' (hb : Below w.heap.size w w') => (hb.cell (p := ⟨0, 0, none⟩) hmb).trans hm)
  clear hm hmb
  by_cases hbig : n ≤ 1048576
  · rw [show decide (1048576 < n) = false from decide_eq_false (by omega)] at HG
    go_enter Tryz.func3, Tryz.ntmps3
    go_wp2_with fail
    refine (unhide HG).mono ?_
    rintro e w0 ⟨rfl, rfl⟩
    clear HG
    have hb := Below.refl w.heap.size w
    go_wp2_with fail
    refine (dccn_any A n c w.heap.size bs w (hr.below hb) hbig hb.size).mono ?_
    rintro e w1 ⟨A_l, c_l, l, x, rfl, k_l, l_l, x0, x1, o_l, d⟩
    replace hb := below_after hb d
    clear d
    replace l_l := hide l_l
    obtain ⟨nl, hnl⟩ : ∃ v9, v9 = l.length := ⟨_, rfl⟩
    rw [← hnl] at k_l o_l ⊢
    have Hnl := hide hnl
    clear hnl
    go_wp2_with fail
    refine (iccn_any A_l _ c_l _ l x ⟨by omega, by omega⟩ w1 o_l (by omega) (lite_rows (unhide l_l))).mono ?_
    rintro e w2 ⟨A_c, c_c, rfl, o_c, d⟩
    replace o_l := o_l.below d
    replace hb := below_after hb d
    clear d
    have hNC7 := (cntsR_rows l x).1
    obtain ⟨CN, hCN⟩ : ∃ v9, v9 = cntsR l x := ⟨_, rfl⟩
    rw [← hCN] at o_c hNC7 ⊢
    have HCN := hide hCN
    clear hCN
    obtain ⟨NC, hNC⟩ : ∃ v9, v9 = CN.length := ⟨_, rfl⟩
    rw [← hNC] at o_c hNC7 ⊢
    have HNC := hide hNC
    clear hNC
    go_wp2_with fail
    refine (dpb_any A n c w.heap.size bs w2 (hr.below hb) hbig hb.size).mono ?_
    rintro e w3 ⟨t, rfl, n_t, d⟩
    replace o_l := o_l.below d
    replace o_c := o_c.below d
    replace hb := below_after hb d
    clear d
    obtain ⟨ok1, hok1⟩ : ∃ v9, v9 = pbOK t := ⟨_, rfl⟩
    obtain ⟨R1, hR1⟩ : ∃ v9, v9 = pbR t := ⟨_, rfl⟩
    have hr1 := pbR_rows t
    rw [← hR1] at hr1
    have HOK1 := hide hok1
    have HR1 := hide hR1
    clear hok1 hR1
    have H1 := hide (ipb_any t (by omega) mx w3 (unhide HM _ hb))
    rw [← unhide HOK1, ← unhide HR1] at H1
    go_wp2_with fail
    refine (unhide H1).mono ?_
    rintro e w4 ⟨A_a, c_a, rfl, o_a, d⟩
    replace o_l := o_l.below d
    replace o_c := o_c.below d
    replace hb := below_after hb d
    clear d
    clear H1
    have H1 := hide (spb_any t (by omega) w4)
    rw [← unhide HOK1, ← unhide HR1] at H1
    go_wp2_with fail
    refine (unhide H1).mono ?_
    rintro e w5 ⟨A_b, c_b, rfl, o_b, d⟩
    replace o_l := o_l.below d
    replace o_c := o_c.below d
    replace o_a := o_a.below d
    replace hb := below_after hb d
    clear d
    clear H1
    go_wp2_with fail
    refine (dmkb_any A n c w.heap.size bs w5 (hr.below hb) hbig hb.size).mono ?_
    rintro e w6 ⟨A_m, c_m, m, rfl, k_m, l_m, o_m, d⟩
    replace o_l := o_l.below d
    replace o_c := o_c.below d
    replace o_a := o_a.below d
    replace o_b := o_b.below d
    replace hb := below_after hb d
    clear d
    replace l_m := hide l_m
    obtain ⟨ok3, hok3⟩ : ∃ v9, v9 = mkOK m := ⟨_, rfl⟩
    obtain ⟨R3, hR3⟩ : ∃ v9, v9 = mkR m := ⟨_, rfl⟩
    have hr3 : (mkR m).length ≤ 8 ∧ tot (mkR m) ≤ 64 := ⟨(mkR_rows m).1, (mkR_rows m).2.1⟩
    rw [← hR3] at hr3
    have HOK3 := hide hok3
    have HR3 := hide hR3
    clear hok3 hR3
    have H1 := hide (imkb_any A_m _ c_m _ m w6 o_m (by omega) (lite_rows (unhide l_m)))
    rw [← unhide HOK3, ← unhide HR3] at H1
    go_wp2_with fail
    refine (unhide H1).mono ?_
    rintro e w7 ⟨A_g, c_g, rfl, o_g, d⟩
    replace o_l := o_l.below d
    replace o_c := o_c.below d
    replace o_a := o_a.below d
    replace o_b := o_b.below d
    replace o_m := o_m.below d
    replace hb := below_after hb d
    clear d
    clear H1
    have H1 := hide (smkb_any A_m _ c_m _ m w7 o_m (by omega) (lite_rows (unhide l_m)))
    rw [← unhide HOK3, ← unhide HR3] at H1
    go_wp2_with fail
    refine (unhide H1).mono ?_
    rintro e w8 ⟨A_h, c_h, rfl, o_h, d⟩
    replace o_l := o_l.below d
    replace o_c := o_c.below d
    replace o_a := o_a.below d
    replace o_b := o_b.below d
    replace o_m := o_m.below d
    replace o_g := o_g.below d
    replace hb := below_after hb d
    clear d
    clear H1
    clear o_m
    go_wp2_with fail
    refine (dinc_any A n c w.heap.size bs w8 (hr.below hb) hbig hb.size).mono ?_
    rintro e w9 ⟨A_q, c_q, q, A_p, c_p, p, rfl, k_q, l_q, l_p, o_q, o_p, d⟩
    replace o_l := o_l.below d
    replace o_c := o_c.below d
    replace o_a := o_a.below d
    replace o_b := o_b.below d
    replace o_g := o_g.below d
    replace o_h := o_h.below d
    replace hb := below_after hb d
    clear d
    replace l_q := hide l_q
    replace l_p := hide l_p
    go_wp2_with fail
    refine (dbu_any A n c w.heap.size bs w9 (hr.below hb) hbig hb.size).mono ?_
    rintro e w10 ⟨A_f, c_f, f, k, rfl, k_f, l_f, k0, k1, o_f, d⟩
    replace o_l := o_l.below d
    replace o_c := o_c.below d
    replace o_a := o_a.below d
    replace o_b := o_b.below d
    replace o_g := o_g.below d
    replace o_h := o_h.below d
    replace o_q := o_q.below d
    replace o_p := o_p.below d
    replace hb := below_after hb d
    clear d
    replace l_f := hide l_f
    obtain ⟨bi, hbi⟩ : ∃ v9, v9 = inC q p := ⟨_, rfl⟩
    have HBI := hide hbi
    clear hbi
    obtain ⟨R5, hR5⟩ : ∃ v9, v9 = buR f k := ⟨_, rfl⟩
    have hr5 : (buR f k).length ≤ 4320 ∧ tot (buR f k) ≤ 34560 := ⟨(buR_rows f k).1, (buR_rows f k).2.1⟩
    rw [← hR5] at hr5
    have HR5 := hide hR5
    clear hR5
    obtain ⟨bl, hbl⟩ : ∃ v9, v9 = basis l := ⟨_, rfl⟩
    have HBL := hide hbl
    clear hbl
    obtain ⟨T, hT⟩ : ∃ v9, v9 = btext l := ⟨_, rfl⟩
    have HT := hide hT
    clear hT
    have H1 := hide (sccn_any A_l _ c_l _ l x ⟨by omega, by omega⟩ w10 o_l (by omega) (lite_rows (unhide l_l)))
    rw [← unhide HCN] at H1
    go_wp2_with fail
    refine (unhide H1).mono ?_
    rintro e w11 ⟨A_y, c_y, rfl, o_y, d⟩
    replace o_l := o_l.below d
    replace o_c := o_c.below d
    replace o_a := o_a.below d
    replace o_b := o_b.below d
    replace o_g := o_g.below d
    replace o_h := o_h.below d
    replace o_q := o_q.below d
    replace o_p := o_p.below d
    replace o_f := o_f.below d
    replace hb := below_after hb d
    clear d
    clear H1
    rw [← unhide HNC] at o_y ⊢
    go_wp2_with fail
    refine (samei_any _ _ _ _ _ _ _ _ CN _ o_c.reads o_y.reads (by omega)).mono ?_
    rintro e w12 ⟨rfl, d0⟩
    have d := d0.below w11.heap.size
    clear d0
    replace o_l := o_l.below d
    replace o_c := o_c.below d
    replace o_a := o_a.below d
    replace o_b := o_b.below d
    replace o_g := o_g.below d
    replace o_h := o_h.below d
    replace o_q := o_q.below d
    replace o_p := o_p.below d
    replace o_f := o_f.below d
    replace o_y := o_y.below d
    replace hb := below_after hb d
    clear d
    clear o_y
    go_wp2_with fail
    refine (samess_any _ _ _ _ _ _ _ _ _ _ o_a o_b (by omega) (by omega)).mono ?_
    rintro e w13 ⟨rfl, d0⟩
    have d := d0.below w12.heap.size
    clear d0
    replace o_l := o_l.below d
    replace o_c := o_c.below d
    replace o_a := o_a.below d
    replace o_b := o_b.below d
    replace o_g := o_g.below d
    replace o_h := o_h.below d
    replace o_q := o_q.below d
    replace o_p := o_p.below d
    replace o_f := o_f.below d
    replace hb := below_after hb d
    clear d
    clear o_a
    clear o_b
    go_wp2_with fail
    refine (samess_any _ _ _ _ _ _ _ _ _ _ o_g o_h (by omega) (by omega)).mono ?_
    rintro e w14 ⟨rfl, d0⟩
    have d := d0.below w13.heap.size
    clear d0
    replace o_l := o_l.below d
    replace o_c := o_c.below d
    replace o_g := o_g.below d
    replace o_h := o_h.below d
    replace o_q := o_q.below d
    replace o_p := o_p.below d
    replace o_f := o_f.below d
    replace hb := below_after hb d
    clear d
    clear o_g
    clear o_h
    have H1 := hide (iinc_any A_q A_p _ c_q _ _ c_p _ q p w14 o_q (by omega) (lite_rows (unhide l_q)) ((unhide l_p).arg o_p (by omega)))
    rw [← unhide HBI] at H1
    go_wp2_with fail
    refine (unhide H1).mono ?_
    rintro e w15 ⟨rfl, d⟩
    replace o_l := o_l.below d
    replace o_c := o_c.below d
    replace o_q := o_q.below d
    replace o_p := o_p.below d
    replace o_f := o_f.below d
    replace hb := below_after hb d
    clear d
    clear H1
    have H1 := hide (sinc_any A_q A_p _ c_q _ _ c_p _ q p w15 o_q (by omega) (lite_rows (unhide l_q)) ((unhide l_p).arg o_p (by omega)))
    rw [← unhide HBI] at H1
    go_wp2_with fail
    refine (unhide H1).mono ?_
    rintro e w16 ⟨rfl, d⟩
    replace o_l := o_l.below d
    replace o_c := o_c.below d
    replace o_q := o_q.below d
    replace o_p := o_p.below d
    replace o_f := o_f.below d
    replace hb := below_after hb d
    clear d
    clear H1
    have H1 := hide (ibu_any A_f _ c_f _ f k ⟨by omega, by omega⟩ w16 o_f (by omega) (lite_rows (unhide l_f)))
    rw [← unhide HR5] at H1
    go_wp2_with fail
    refine (unhide H1).mono ?_
    rintro e w17 ⟨A_u, c_u, rfl, o_u, d⟩
    replace o_l := o_l.below d
    replace o_c := o_c.below d
    replace o_q := o_q.below d
    replace o_p := o_p.below d
    replace o_f := o_f.below d
    replace hb := below_after hb d
    clear d
    clear H1
    have H1 := hide (sbu_any A_f _ c_f _ f k ⟨by omega, by omega⟩ w17 o_f (by omega) (lite_rows (unhide l_f)))
    rw [← unhide HR5] at H1
    go_wp2_with fail
    refine (unhide H1).mono ?_
    rintro e w18 ⟨A_v, c_v, rfl, o_v, d⟩
    replace o_l := o_l.below d
    replace o_c := o_c.below d
    replace o_q := o_q.below d
    replace o_p := o_p.below d
    replace o_f := o_f.below d
    replace o_u := o_u.below d
    replace hb := below_after hb d
    clear d
    clear H1
    go_wp2_with fail
    refine (samess_any _ _ _ _ _ _ _ _ _ _ o_u o_v (by omega) (by omega)).mono ?_
    rintro e w19 ⟨rfl, d0⟩
    have d := d0.below w18.heap.size
    clear d0
    replace o_l := o_l.below d
    replace o_c := o_c.below d
    replace o_q := o_q.below d
    replace o_p := o_p.below d
    replace o_f := o_f.below d
    replace o_u := o_u.below d
    replace o_v := o_v.below d
    replace hb := below_after hb d
    clear d
    clear o_u
    clear o_v
    clear o_f
    have H1 := hide (ibas_any A_l _ c_l _ l w19 o_l (by omega) (lite_rows (unhide l_l)))
    rw [← unhide HBL] at H1
    go_wp2_with fail
    refine (unhide H1).mono ?_
    rintro e w20 ⟨rfl, d⟩
    replace o_l := o_l.below d
    replace o_c := o_c.below d
    replace o_q := o_q.below d
    replace o_p := o_p.below d
    replace hb := below_after hb d
    clear d
    clear H1
    have H1 := hide (sbas_any A_l _ c_l _ l w20 o_l (by omega) (lite_rows (unhide l_l)))
    rw [← unhide HBL] at H1
    go_wp2_with fail
    refine (unhide H1).mono ?_
    rintro e w21 ⟨rfl, d⟩
    replace o_l := o_l.below d
    replace o_c := o_c.below d
    replace o_q := o_q.below d
    replace o_p := o_p.below d
    replace hb := below_after hb d
    clear d
    clear H1
    have H1 := hide (ibtx_any A_l _ c_l _ l w21 o_l (by omega) (lite_rows (unhide l_l)))
    rw [← unhide HT] at H1
    go_wp2_with fail
    refine (unhide H1).mono ?_
    rintro e w22 ⟨rfl, d⟩
    replace o_l := o_l.below d
    replace o_c := o_c.below d
    replace o_q := o_q.below d
    replace o_p := o_p.below d
    replace hb := below_after hb d
    clear d
    clear H1
    have H1 := hide (sbtx_any A_l _ c_l _ l w22 o_l (by omega) (lite_rows (unhide l_l)))
    rw [← unhide HT] at H1
    go_wp2_with fail
    refine (unhide H1).mono ?_
    rintro e w23 ⟨rfl, d⟩
    replace o_l := o_l.below d
    replace o_c := o_c.below d
    replace o_q := o_q.below d
    replace o_p := o_p.below d
    replace hb := below_after hb d
    clear d
    clear H1
    have H1 := hide (iinc_any A_q A_p _ c_q _ _ c_p _ q p w23 o_q (by omega) (lite_rows (unhide l_q)) ((unhide l_p).arg o_p (by omega)))
    rw [← unhide HBI] at H1
    go_wp2_with fail
    refine (unhide H1).mono ?_
    rintro e w24 ⟨rfl, d⟩
    replace o_l := o_l.below d
    replace o_c := o_c.below d
    replace o_q := o_q.below d
    replace o_p := o_p.below d
    replace hb := below_after hb d
    clear d
    clear H1
    clear HOK1 HR1 hr1 HOK3 HR3 hr3 HR5 hr5 HBL HT
    cases bi with
    | false =>
      clear o_q
      clear o_p
      by_cases hN0 : NC = 0
      · have hc0 : ((NC : Int) == 0) = true := by rw [hN0]; rfl
        clear hN0 o_l o_c
        go_wp2
        go_ret
        exact ⟨rfl, hb⟩
      · have hc0 : ((NC : Int) == 0) = false := by rw [beq_eq_false_iff_ne]; omega
        by_cases hx4 : 4 < x
        · clear hN0 o_l o_c
          go_wp2
          go_ret
          exact ⟨rfl, hb⟩
        have hyes : basis l = true ∧ 0 ≤ x ∧ x ≤ 6 := by
          apply Classical.byContradiction
          intro hno
          apply hN0
          rw [unhide HNC, unhide HCN, cntsR_no hno]
          rfl
        obtain ⟨j, rfl⟩ : ∃ j : Nat, x = j := ⟨x.toNat, by omega⟩
        have hj4 : j ≤ 4 := by omega
        have hbas := hyes.1
        have HCE := hide (show CN = cntsN l (j + 1) from (unhide HCN).trans (cntsR_yes hbas (by omega)))
        have hNCj : j + 1 ≤ NC := by rw [unhide HNC, unhide HCE, cntsN_length]; exact Nat.le_refl _
        have HAT := hide (fun (i : Nat) (hi : i < j + 1) => (show CN[i]? = some (((clsN l i).length : Nat) : Int) by rw [unhide HCE]; unfold cntsN; rw [List.getElem?_map, List.getElem?_range hi]; rfl))
        have HCL := hide (fun (i : Nat) (hi : i < j + 1) => clsO_N hbas (show i ≤ 6 by omega))
        have HUL := hide (fun (i : Nat) (hi : i ≤ j + 1) => flat_le l (show i ≤ 7 by omega))
        have HAG := hide (basis_again hbas (show j ≤ 6 by omega))
        have HALL := hide (show allC l j = (List.range (j + 1)).flatMap (clsN l) from rfl)
        have HLR := hide (fun (z : List Int) (hz : z ∈ allC l j) => lite_P ((mem_all (show j ≤ 6 by omega)).1 hz).1)
        have HTOT := hide (fun (k9 : Nat) => (show tot (sift (fun z => decide (z.length ≤ j)) l k9) ≤ 1048576 from by
          have h1 := sift_le (fun z => decide (z.length ≤ j)) l k9
          have h2 := tot_room 9 (sift (fun z => decide (z.length ≤ j)) l k9) (fun z hz => ((unhide l_l) z (List.mem_of_mem_take (List.mem_filter.1 hz).1)).1)
          have h3 : (sift (fun z => decide (z.length ≤ j)) l k9).length ≤ nl := by rw [unhide Hnl]; unfold sift; exact Nat.le_trans (List.length_filter_le _ _) (by rw [List.length_take]; omega)
          omega))
        have hx4b : ¬ (4 : Int) < (j : Int) := by omega
        clear hyes hN0 hx4 hbas HCE
        obtain ⟨w0, hw0⟩ : ∃ v9 : World, v9 = w24 := ⟨_, rfl⟩
        rw [← hw0] at o_l o_c hb ⊢
        clear hw0
        have hI0 := IntsS.made0 w0 w0.heap.size (Nat.le_refl _)
        have hk0 := (Below.refl w0.heap.size w0).alloc (Nat.le_refl _) (.cells #[] 27)
        go_wp2
        go_loopw [22, 23, 24] (fun v i _ wr => ∃ k9 : Nat, k9 ≤ j + 1 ∧ i = .int .i64 k9 ∧ IntsS wr w0.heap.size v ((List.range k9).flatMap (clsN l)) ∧ Below w0.heap.size w0 wr) (fun _ i _ _ => j + 1 - (intOf i).toNat)
        case atStart => exact ⟨0, Nat.zero_le _, rfl, hI0, hk0⟩
        case round =>
          obtain ⟨k9, hk9, rfl, hI, hbk⟩ := hrel
          clear hI0 hk0
          by_cases hlt : k9 < j + 1
          · have hlt2 : (k9 : Int) ≤ (j : Int) := by omega
            have HX := hide (iclo_any A_l _ c_l _ l (k9 : Int) ⟨by omega, by omega⟩ wr (o_l.below hbk) (by omega) (lite_rows (unhide l_l)))
            rw [unhide HCL k9 hlt] at HX
            obtain ⟨adc, u, rfl, hadc, hu, hcc⟩ := (o_c.below hbk).reads.at_ (show k9 < NC by omega)
            obtain ⟨y, hy, rfl⟩ := i64_at hu
            obtain rfl : (((clsN l k9).length : Nat) : Int) = y := Option.some.inj ((unhide HAT k9 hlt).symm.trans hy)
            have hUl := unhide HUL k9 (by omega)
            have hZl := (clsN_le l (show k9 ≤ 6 by omega))
            have hnx := range_next l k9
            have hszk := hbk.size
            obtain ⟨U, hU⟩ : ∃ v9, v9 = (List.range k9).flatMap (clsN l) := ⟨_, rfl⟩
            obtain ⟨Z, hZ⟩ : ∃ v9, v9 = clsN l k9 := ⟨_, rfl⟩
            rw [← hU] at hI hUl hnx
            rw [← hZ] at HX hcc hZl hnx
            obtain ⟨NZ, hNZ⟩ : ∃ v9, v9 = Z.length := ⟨_, rfl⟩
            rw [← hNZ] at hcc hZl
            have HNZ := hide hNZ
            have HNX := hide hnx
            clear hu hy hU hZ hNZ hnx
            have hadl := World.block_lt_of_cell? wr _ hcc
            go_wp2_with fail
            refine (unhide HX).mono ?_
            rintro e w60 ⟨A9, c9, rfl, o9, d⟩
            rw [← unhide HNZ] at o9 ⊢
            have hcc2 := (d.cell hadl).trans hcc
            have hb60 := below_after hbk d
            have hkNC : (k9 : Int) < (NC : Int) := by omega
            clear HX hcc hadl
            go_wp2_with (first
              | (at_builtin; refine wpList_append_lists rfl (.tmp 173) (.tmp 174) rfl w0.heap.size w0 wr w60 _ A9 NZ c9 U Z rfl rfl hI d o9 hUl hZl hb60 hszk ?_; intro v61 w61 hI61 hb61))
            rw [unhide HNX] at hI61
            clear hI d o9 hb60 hUl hZl hszk hcc2 hbk
            go_roundw
            case rel => exact ⟨k9 + 1, by omega, by go_num, hI61, hb61⟩
            case measure => simp [intOf]; omega
          · obtain rfl : k9 = j + 1 := by omega
            have hlt2 : ¬ ((j : Int) + 1 ≤ (j : Int)) := by omega
            replace o_l := o_l.below hbk
            replace hb := below_after hb hbk
            rw [← unhide HALL] at hI
            obtain ⟨A_z, c_z, rfl⟩ := hI.slice
            have hNA := unhide HUL (j + 1) (Nat.le_refl _)
            rw [← unhide HALL] at hNA
            obtain ⟨AL, hAL⟩ : ∃ v9, v9 = allC l j := ⟨_, rfl⟩
            rw [← hAL] at hI hNA HAG HLR ⊢
            have HAL := HLR
            obtain ⟨NA, hNAe⟩ : ∃ v9, v9 = AL.length := ⟨_, rfl⟩
            rw [← hNAe] at hI hNA ⊢
            have o_z := hI
            clear hI hAL hNAe hbk o_c HALL HAT HCL HUL HLR HCN HNC hNCj hlt hk9
            obtain ⟨wu1, rfl⟩ : ∃ wu, wu = wr := ⟨_, rfl⟩
            have hSh := IntsS.made0 wu1 wu1.heap.size (Nat.le_refl _)
            have hS0 := ownS0 wu1 w.heap.size hb.size
            have hal := (Below.refl wu1.heap.size wu1).alloc (Nat.le_refl _) (.cells #[] 27)
            have o_l2 := o_l.below hal
            have o_z2 := o_z.below hal
            have hb2 := below_after hb hal
            have hAl : Away (.slice A_l nl c_l) (.slice (some ⟨wu1.heap.size, 0, none⟩) 0 0) := (hSh.away (v := .slice A_l nl c_l) (fun g hg => by obtain ⟨us9, q9, _⟩ := o_l; exact (q9.lt g hg).2) o_l2).symm
            have hAz : Away (.slice A_z NA c_z) (.slice (some ⟨wu1.heap.size, 0, none⟩) 0 0) := (hSh.away (v := .slice A_z NA c_z) (fun g hg => by obtain ⟨us9, q9, _⟩ := o_z; exact (q9.lt g hg).2) o_z2).symm
            obtain ⟨vs, hsib⟩ := Sib.late o_l2 hS0 hAl
            clear hSh hS0 hal o_l o_z o_l2 hAl hb
            go_wp2
            go_loopw [25, 26] (fun ov i wr => ∃ (k9 : Nat) (us : List Value), k9 ≤ nl ∧ i = .int .i64 k9 ∧ Sib wr w.heap.size w.heap.size (.slice A_l nl c_l) vs l ov us (sift (fun z => decide (z.length ≤ j)) l k9) k9 ∧ IntsS wr w0.heap.size (.slice A_z NA c_z) AL ∧ Away (.slice A_z NA c_z) ov ∧ Below w.heap.size w wr) (fun _ i _ => nl - (intOf i).toNat)
            case atStart => exact ⟨0, [], Nat.zero_le _, rfl, hsib, o_z2, hAz, hb2⟩
            case round =>
              obtain ⟨k9, us, hk9, rfl, hs, hz9, ha9, hb9⟩ := hrel
              clear hsib o_z2 hAz hb2
              have hle := sift_le (fun z => decide (z.length ≤ j)) l k9
              by_cases hlt : k9 < nl
              · obtain ⟨ad, A6, c6, z, rfl, hz, hvz, hcell, hI⟩ := hs.row rfl hlt
                have HZ := hide (⟨hz, hvz⟩ : _ ∧ _)
                have hslen : (sift (fun z => decide (z.length ≤ j)) l k9).length ≤ 1048576 := by omega
                have HY := hide (fun (h : decide (z.length ≤ j) = true) => sift_yes (g := fun z => decide (z.length ≤ j)) hz h)
                have HN := hide (fun (h : decide (z.length ≤ j) = false) => sift_no (g := fun z => decide (z.length ≤ j)) hz h)
                obtain ⟨S9, hS9⟩ : ∃ v9, v9 = sift (fun z => decide (z.length ≤ j)) l k9 := ⟨_, rfl⟩
                rw [← hS9] at hs hslen HY HN
                obtain ⟨lz, hlz⟩ : ∃ v9, v9 = z.length := ⟨_, rfl⟩
                rw [← hlz] at hcell HZ HY HN
                clear hz hvz hI hS9 hlz hle
                by_cases hzl : lz ≤ j
                · have hzl2 : (lz : Int) ≤ (j : Int) := by omega
                  have HE := hide (unhide HY (decide_eq_true hzl))
                  clear HY HN
                  go_wp2_with (first
                    | (at_builtin; refine wpList_sift_at rfl (.tmp 190) (.tmp 195) rfl w.heap.size w.heap.size w wr (.slice (some ad) nl c_l) _ (.slice A6 lz c6) vs us l S9 k9 z rfl rfl rfl hs (unhide HZ).2 (unhide HZ).1 hslen hb9 (Nat.le_refl _) ?_; intro v7 w7 hs7 hb7 hkeep7))
                  obtain ⟨hz7, ha7⟩ := hkeep7 _ _ _ hz9 ha9
                  rw [← unhide HE] at hs7
                  clear hs hb9 hcell hkeep7 hz9 ha9 hslen
                  go_roundw
                  case rel => exact ⟨k9 + 1, _, by omega, by go_num, hs7, hz7, ha7, hb7⟩
                  case measure => simp [intOf]; omega
                · have hzl2 : ¬ (lz : Int) ≤ (j : Int) := by omega
                  have HE := hide (unhide HN (decide_eq_false hzl))
                  have hs7 := hs.skip
                  rw [← unhide HE] at hs7
                  have HS7 := hide hs7
                  clear HY HN hs hs7 hslen
                  go_wp2
                  go_roundw
                  case rel => exact ⟨k9 + 1, us, by omega, by go_num, unhide HS7, hz9, ha9, hb9⟩
                  case measure => simp [intOf]; omega
              · obtain rfl : nl = k9 := by omega
                have hsO := hs.outS
                obtain ⟨A_s, c_s, rfl⟩ := hsO.slice
                have HX := hide (ibu_any A_z _ c_z _ AL (j : Int) ⟨by omega, by omega⟩ wr hz9 (by omega) (lite_rows (unhide HAL)))
                have hE : buR AL (j : Int) = sift (fun z => decide (z.length ≤ j)) l nl := (unhide HAG).trans (by rw [unhide Hnl, sift_all])
                rw [hE] at HX
                have hst := unhide HTOT nl
                obtain ⟨S9, hS9⟩ : ∃ v9, v9 = sift (fun z => decide (z.length ≤ j)) l nl := ⟨_, rfl⟩
                rw [← hS9] at hsO HX hle hst ⊢
                clear hs hz9 ha9 hE hS9
                go_wp2_with fail
                refine (unhide HX).mono ?_
                rintro e w70 ⟨A_t, c_t, rfl, o_t, d⟩
                replace hsO := hsO.below d
                have hb10 := below_after hb9 d
                clear HX hb9 d
                go_wp2_with fail
                refine (samess_any _ _ _ _ _ _ _ _ _ _ o_t hsO (by omega) (by omega)).mono ?_
                rintro e w71 ⟨rfl, d0⟩
                have hb := hb10.trans (d0.below _)
                clear hb10 d0 o_t hsO
                go_wp2
                go_ret
                exact ⟨rfl, hb⟩
    | true =>
      have HLW := hide (fun (z : List Int) (hz : z ∈ lowR p) => (⟨inC_low (unhide HBI).symm hz, lite_P (low_all hz)⟩ : inC q z = true ∧ Lite 9 z))
      have hLN := (low_size p).1
      obtain ⟨LW, hLW⟩ : ∃ v9, v9 = lowR p := ⟨_, rfl⟩
      rw [← hLW] at HLW hLN
      have H1 := hide (slow_any A_p _ c_p _ p w24 ((unhide l_p).arg o_p (by omega)))
      rw [← hLW] at H1
      clear hLW
      go_wp2_with fail
      refine (unhide H1).mono ?_
      rintro e w25 ⟨A_r, c_r, rfl, o_r, d⟩
      replace o_l := o_l.below d
      replace o_c := o_c.below d
      replace o_q := o_q.below d
      replace o_p := o_p.below d
      replace hb := below_after hb d
      clear d
      clear H1
      obtain ⟨nr, hnr⟩ : ∃ v9, v9 = LW.length := ⟨_, rfl⟩
      rw [← hnr] at o_r hLN ⊢
      clear hnr
      clear o_p
      have hk0 := Below.refl w25.heap.size w25
      have hbw := hb
      go_wp2
      go_loopw [21] (fun i wr => ∃ k9 : Nat, k9 ≤ nr ∧ i = .int .i64 k9 ∧ Below w25.heap.size w25 wr) (fun i _ => nr - (intOf i).toNat)
      case atStart => exact ⟨0, Nat.zero_le _, rfl, hk0⟩
      case round =>
        obtain ⟨k9, hk9, rfl, hbk⟩ := hrel
        clear hk0 hbw
        by_cases hlt : k9 < nr
        · obtain ⟨ad, A1, c1, z, rfl, hz, hcell, hIz⟩ := (o_r.below hbk).at_ hlt
          obtain ⟨hfact, lz⟩ := unhide HLW z (List.mem_of_getElem? hz)
          have HX := hide (iinc_any A_q A1 _ c_q _ _ c1 _ q z wr (o_q.below hbk) (by omega) (lite_rows (unhide l_q)) (lz.arg hIz (by omega)))
          rw [hfact] at HX
          clear hIz hz hfact lz
          go_wp2_with fail
          refine (unhide HX).mono ?_
          rintro e w50 ⟨rfl, d⟩
          have hbk2 := below_after hbk d
          clear d HX hbk hcell
          go_wp2
          go_roundw
          case rel => exact ⟨k9 + 1, by omega, by go_num, hbk2⟩
          case measure => simp [intOf]; omega
        · obtain rfl : nr = k9 := by omega
          clear o_r
          clear o_q
          replace o_l := o_l.below hbk
          replace o_c := o_c.below hbk
          replace hb := below_after hb hbk
          clear hbk hlt hk9
          obtain ⟨wu0, rfl⟩ : ∃ wu, wu = wr := ⟨_, rfl⟩
          by_cases hN0 : NC = 0
          · have hc0 : ((NC : Int) == 0) = true := by rw [hN0]; rfl
            clear hN0 o_l o_c
            go_wp2
            go_ret
            exact ⟨rfl, hb⟩
          · have hc0 : ((NC : Int) == 0) = false := by rw [beq_eq_false_iff_ne]; omega
            by_cases hx4 : 4 < x
            · clear hN0 o_l o_c
              go_wp2
              go_ret
              exact ⟨rfl, hb⟩
            have hyes : basis l = true ∧ 0 ≤ x ∧ x ≤ 6 := by
              apply Classical.byContradiction
              intro hno
              apply hN0
              rw [unhide HNC, unhide HCN, cntsR_no hno]
              rfl
            obtain ⟨j, rfl⟩ : ∃ j : Nat, x = j := ⟨x.toNat, by omega⟩
            have hj4 : j ≤ 4 := by omega
            have hbas := hyes.1
            have HCE := hide (show CN = cntsN l (j + 1) from (unhide HCN).trans (cntsR_yes hbas (by omega)))
            have hNCj : j + 1 ≤ NC := by rw [unhide HNC, unhide HCE, cntsN_length]; exact Nat.le_refl _
            have HAT := hide (fun (i : Nat) (hi : i < j + 1) => (show CN[i]? = some (((clsN l i).length : Nat) : Int) by rw [unhide HCE]; unfold cntsN; rw [List.getElem?_map, List.getElem?_range hi]; rfl))
            have HCL := hide (fun (i : Nat) (hi : i < j + 1) => clsO_N hbas (show i ≤ 6 by omega))
            have HUL := hide (fun (i : Nat) (hi : i ≤ j + 1) => flat_le l (show i ≤ 7 by omega))
            have HAG := hide (basis_again hbas (show j ≤ 6 by omega))
            have HALL := hide (show allC l j = (List.range (j + 1)).flatMap (clsN l) from rfl)
            have HLR := hide (fun (z : List Int) (hz : z ∈ allC l j) => lite_P ((mem_all (show j ≤ 6 by omega)).1 hz).1)
            have HTOT := hide (fun (k9 : Nat) => (show tot (sift (fun z => decide (z.length ≤ j)) l k9) ≤ 1048576 from by
              have h1 := sift_le (fun z => decide (z.length ≤ j)) l k9
              have h2 := tot_room 9 (sift (fun z => decide (z.length ≤ j)) l k9) (fun z hz => ((unhide l_l) z (List.mem_of_mem_take (List.mem_filter.1 hz).1)).1)
              have h3 : (sift (fun z => decide (z.length ≤ j)) l k9).length ≤ nl := by rw [unhide Hnl]; unfold sift; exact Nat.le_trans (List.length_filter_le _ _) (by rw [List.length_take]; omega)
              omega))
            have hx4b : ¬ (4 : Int) < (j : Int) := by omega
            clear hyes hN0 hx4 hbas HCE
            obtain ⟨w0, hw0⟩ : ∃ v9 : World, v9 = wu0 := ⟨_, rfl⟩
            rw [← hw0] at o_l o_c hb ⊢
            clear hw0
            have hI0 := IntsS.made0 w0 w0.heap.size (Nat.le_refl _)
            have hk0 := (Below.refl w0.heap.size w0).alloc (Nat.le_refl _) (.cells #[] 27)
            go_wp2
            go_loopw [22, 23, 24] (fun v i _ wr => ∃ k9 : Nat, k9 ≤ j + 1 ∧ i = .int .i64 k9 ∧ IntsS wr w0.heap.size v ((List.range k9).flatMap (clsN l)) ∧ Below w0.heap.size w0 wr) (fun _ i _ _ => j + 1 - (intOf i).toNat)
            case atStart => exact ⟨0, Nat.zero_le _, rfl, hI0, hk0⟩
            case round =>
              obtain ⟨k9, hk9, rfl, hI, hbk⟩ := hrel
              clear hI0 hk0
              by_cases hlt : k9 < j + 1
              · have hlt2 : (k9 : Int) ≤ (j : Int) := by omega
                have HX := hide (iclo_any A_l _ c_l _ l (k9 : Int) ⟨by omega, by omega⟩ wr (o_l.below hbk) (by omega) (lite_rows (unhide l_l)))
                rw [unhide HCL k9 hlt] at HX
                obtain ⟨adc, u, rfl, hadc, hu, hcc⟩ := (o_c.below hbk).reads.at_ (show k9 < NC by omega)
                obtain ⟨y, hy, rfl⟩ := i64_at hu
                obtain rfl : (((clsN l k9).length : Nat) : Int) = y := Option.some.inj ((unhide HAT k9 hlt).symm.trans hy)
                have hUl := unhide HUL k9 (by omega)
                have hZl := (clsN_le l (show k9 ≤ 6 by omega))
                have hnx := range_next l k9
                have hszk := hbk.size
                obtain ⟨U, hU⟩ : ∃ v9, v9 = (List.range k9).flatMap (clsN l) := ⟨_, rfl⟩
                obtain ⟨Z, hZ⟩ : ∃ v9, v9 = clsN l k9 := ⟨_, rfl⟩
                rw [← hU] at hI hUl hnx
                rw [← hZ] at HX hcc hZl hnx
                obtain ⟨NZ, hNZ⟩ : ∃ v9, v9 = Z.length := ⟨_, rfl⟩
                rw [← hNZ] at hcc hZl
                have HNZ := hide hNZ
                have HNX := hide hnx
                clear hu hy hU hZ hNZ hnx
                have hadl := World.block_lt_of_cell? wr _ hcc
                go_wp2_with fail
                refine (unhide HX).mono ?_
                rintro e w60 ⟨A9, c9, rfl, o9, d⟩
                rw [← unhide HNZ] at o9 ⊢
                have hcc2 := (d.cell hadl).trans hcc
                have hb60 := below_after hbk d
                have hkNC : (k9 : Int) < (NC : Int) := by omega
                clear HX hcc hadl
                go_wp2_with (first
                  | (at_builtin; refine wpList_append_lists rfl (.tmp 173) (.tmp 174) rfl w0.heap.size w0 wr w60 _ A9 NZ c9 U Z rfl rfl hI d o9 hUl hZl hb60 hszk ?_; intro v61 w61 hI61 hb61))
                rw [unhide HNX] at hI61
                clear hI d o9 hb60 hUl hZl hszk hcc2 hbk
                go_roundw
                case rel => exact ⟨k9 + 1, by omega, by go_num, hI61, hb61⟩
                case measure => simp [intOf]; omega
              · obtain rfl : k9 = j + 1 := by omega
                have hlt2 : ¬ ((j : Int) + 1 ≤ (j : Int)) := by omega
                replace o_l := o_l.below hbk
                replace hb := below_after hb hbk
                rw [← unhide HALL] at hI
                obtain ⟨A_z, c_z, rfl⟩ := hI.slice
                have hNA := unhide HUL (j + 1) (Nat.le_refl _)
                rw [← unhide HALL] at hNA
                obtain ⟨AL, hAL⟩ : ∃ v9, v9 = allC l j := ⟨_, rfl⟩
                rw [← hAL] at hI hNA HAG HLR ⊢
                have HAL := HLR
                obtain ⟨NA, hNAe⟩ : ∃ v9, v9 = AL.length := ⟨_, rfl⟩
                rw [← hNAe] at hI hNA ⊢
                have o_z := hI
                clear hI hAL hNAe hbk o_c HALL HAT HCL HUL HLR HCN HNC hNCj hlt hk9
                obtain ⟨wu1, rfl⟩ : ∃ wu, wu = wr := ⟨_, rfl⟩
                have hSh := IntsS.made0 wu1 wu1.heap.size (Nat.le_refl _)
                have hS0 := ownS0 wu1 w.heap.size hb.size
                have hal := (Below.refl wu1.heap.size wu1).alloc (Nat.le_refl _) (.cells #[] 27)
                have o_l2 := o_l.below hal
                have o_z2 := o_z.below hal
                have hb2 := below_after hb hal
                have hAl : Away (.slice A_l nl c_l) (.slice (some ⟨wu1.heap.size, 0, none⟩) 0 0) := (hSh.away (v := .slice A_l nl c_l) (fun g hg => by obtain ⟨us9, q9, _⟩ := o_l; exact (q9.lt g hg).2) o_l2).symm
                have hAz : Away (.slice A_z NA c_z) (.slice (some ⟨wu1.heap.size, 0, none⟩) 0 0) := (hSh.away (v := .slice A_z NA c_z) (fun g hg => by obtain ⟨us9, q9, _⟩ := o_z; exact (q9.lt g hg).2) o_z2).symm
                obtain ⟨vs, hsib⟩ := Sib.late o_l2 hS0 hAl
                clear hSh hS0 hal o_l o_z o_l2 hAl hb
                go_wp2
                go_loopw [25, 26] (fun ov i wr => ∃ (k9 : Nat) (us : List Value), k9 ≤ nl ∧ i = .int .i64 k9 ∧ Sib wr w.heap.size w.heap.size (.slice A_l nl c_l) vs l ov us (sift (fun z => decide (z.length ≤ j)) l k9) k9 ∧ IntsS wr w0.heap.size (.slice A_z NA c_z) AL ∧ Away (.slice A_z NA c_z) ov ∧ Below w.heap.size w wr) (fun _ i _ => nl - (intOf i).toNat)
                case atStart => exact ⟨0, [], Nat.zero_le _, rfl, hsib, o_z2, hAz, hb2⟩
                case round =>
                  obtain ⟨k9, us, hk9, rfl, hs, hz9, ha9, hb9⟩ := hrel
                  clear hsib o_z2 hAz hb2
                  have hle := sift_le (fun z => decide (z.length ≤ j)) l k9
                  by_cases hlt : k9 < nl
                  · obtain ⟨ad, A6, c6, z, rfl, hz, hvz, hcell, hI⟩ := hs.row rfl hlt
                    have HZ := hide (⟨hz, hvz⟩ : _ ∧ _)
                    have hslen : (sift (fun z => decide (z.length ≤ j)) l k9).length ≤ 1048576 := by omega
                    have HY := hide (fun (h : decide (z.length ≤ j) = true) => sift_yes (g := fun z => decide (z.length ≤ j)) hz h)
                    have HN := hide (fun (h : decide (z.length ≤ j) = false) => sift_no (g := fun z => decide (z.length ≤ j)) hz h)
                    obtain ⟨S9, hS9⟩ : ∃ v9, v9 = sift (fun z => decide (z.length ≤ j)) l k9 := ⟨_, rfl⟩
                    rw [← hS9] at hs hslen HY HN
                    obtain ⟨lz, hlz⟩ : ∃ v9, v9 = z.length := ⟨_, rfl⟩
                    rw [← hlz] at hcell HZ HY HN
                    clear hz hvz hI hS9 hlz hle
                    by_cases hzl : lz ≤ j
                    · have hzl2 : (lz : Int) ≤ (j : Int) := by omega
                      have HE := hide (unhide HY (decide_eq_true hzl))
                      clear HY HN
                      go_wp2_with (first
                        | (at_builtin; refine wpList_sift_at rfl (.tmp 190) (.tmp 195) rfl w.heap.size w.heap.size w wr (.slice (some ad) nl c_l) _ (.slice A6 lz c6) vs us l S9 k9 z rfl rfl rfl hs (unhide HZ).2 (unhide HZ).1 hslen hb9 (Nat.le_refl _) ?_; intro v7 w7 hs7 hb7 hkeep7))
                      obtain ⟨hz7, ha7⟩ := hkeep7 _ _ _ hz9 ha9
                      rw [← unhide HE] at hs7
                      clear hs hb9 hcell hkeep7 hz9 ha9 hslen
                      go_roundw
                      case rel => exact ⟨k9 + 1, _, by omega, by go_num, hs7, hz7, ha7, hb7⟩
                      case measure => simp [intOf]; omega
                    · have hzl2 : ¬ (lz : Int) ≤ (j : Int) := by omega
                      have HE := hide (unhide HN (decide_eq_false hzl))
                      have hs7 := hs.skip
                      rw [← unhide HE] at hs7
                      have HS7 := hide hs7
                      clear HY HN hs hs7 hslen
                      go_wp2
                      go_roundw
                      case rel => exact ⟨k9 + 1, us, by omega, by go_num, unhide HS7, hz9, ha9, hb9⟩
                      case measure => simp [intOf]; omega
                  · obtain rfl : nl = k9 := by omega
                    have hsO := hs.outS
                    obtain ⟨A_s, c_s, rfl⟩ := hsO.slice
                    have HX := hide (ibu_any A_z _ c_z _ AL (j : Int) ⟨by omega, by omega⟩ wr hz9 (by omega) (lite_rows (unhide HAL)))
                    have hE : buR AL (j : Int) = sift (fun z => decide (z.length ≤ j)) l nl := (unhide HAG).trans (by rw [unhide Hnl, sift_all])
                    rw [hE] at HX
                    have hst := unhide HTOT nl
                    obtain ⟨S9, hS9⟩ : ∃ v9, v9 = sift (fun z => decide (z.length ≤ j)) l nl := ⟨_, rfl⟩
                    rw [← hS9] at hsO HX hle hst ⊢
                    clear hs hz9 ha9 hE hS9
                    go_wp2_with fail
                    refine (unhide HX).mono ?_
                    rintro e w70 ⟨A_t, c_t, rfl, o_t, d⟩
                    replace hsO := hsO.below d
                    have hb10 := below_after hb9 d
                    clear HX hb9 d
                    go_wp2_with fail
                    refine (samess_any _ _ _ _ _ _ _ _ _ _ o_t hsO (by omega) (by omega)).mono ?_
                    rintro e w71 ⟨rfl, d0⟩
                    have hb := hb10.trans (d0.below _)
                    clear hb10 d0 o_t hsO
                    go_wp2
                    go_ret
                    exact ⟨rfl, hb⟩
  · rw [show decide (1048576 < n) = true from decide_eq_true (by omega)] at HG
    clear hr hn
    go_enter Tryz.func3, Tryz.ntmps3
    go_wp2_with fail
    refine (unhide HG).mono ?_
    rintro e w0 ⟨rfl, rfl⟩
    go_wp2
    go_ret
    exact ⟨rfl, Below.refl _ _⟩

theorem params_ok : ∀ t ∈ (#[22] : Array TypeId).toList, Tryz.prog.readableRec t = true ∧ t < Tryz.prog.types.size := by
  intro t ht
  simp only [List.mem_cons, List.not_mem_nil, or_false] at ht
  subst ht
  exact ⟨by kernel_rfl, of_decide_eq_true (by kernel_rfl)⟩

set_option maxRecDepth 100000 in
/-- WHAT THE WALK GIVES, FOR EVERY ARGUMENT. -/
theorem contract (H : Type) (enc : TypeId × Value → H) (W : World) (base : Nat) (args : Array Value) (ds gs : List (DataW H)) (before : List MemPlace)
    (hval : ∀ (j : Nat) t v, Tryz.f3.params[j]? = some t → args[j]? = some v → Value.okWide Tryz.prog W .any base t v)
    (hW : DataW.Whole enc Tryz.prog Tryz.f3.params.toList Rows.fnClassesSpec.vars false W args.toList ds gs before) (hL : laidMetH Tryz.prog Rows.fnClassesRow.laid W) (hS : W.ShapedOpen Tryz.prog) :
    Calls Tryz.prog 3 args W fun e W' => ∃ v, e = .returned v ∧ Rows.fnClassesSpec.post enc Tryz.prog Tryz.f3 false true false false W args v W' := by
  have hW' := hW
  obtain ⟨p, q, hA0, hV, rfl, hfz, hnd⟩ := hW
  have hA : DataW.TrodAll enc Tryz.prog W 0 (fun _ => true) true Tryz.f3.params.toList args.toList ds p := hA0
  rw [Tryz.params3] at hA hval
  obtain ⟨v0, d0, rfl, rfl, h0⟩ := trodAll_one hA
  obtain ⟨rfl, rfl⟩ := trodVars_none hV
  obtain ⟨Abs, nbs, cbs, bs, rfl, hrbs, hnbs⟩ := open_bytes_reads Tryz.underlying22 Tryz.underlying5 cellsByte (hval 0 22 v0 rfl rfl) h0 (fun x hx => by simpa using hW'.lt x (by simp [hx]))
  have hL' : laidMet Tryz.prog Rows.fnClassesRow.laid W := hL
  obtain ⟨m, hm⟩ := Tryz.laysM146.s1_3 W hS
  refine (walk Abs nbs cbs bs m W hrbs hnbs hm).mono fun e W' ⟨he, hb⟩ => ?_
  subst he
  exact ⟨_, rfl, law_end laidOut (by rw [Tryz.params3]; exact params_ok) Tryz.underlying4 rfl rfl hW' rfl hb⟩

set_option maxRecDepth 100000 in
theorem laid_met (os : Os) : laidMet Tryz.prog Rows.fnClassesRow.laid ((laidWorldS os).forCall (fun _ _ => 0) ⟨#[], #[.slice none 0 0], []⟩).memory :=
  laidMet_of_run' 8 (by kernel_rfl) (by kernel_rfl)
set_option maxRecDepth 100000 in
theorem reads (os : Os) {H : Type} (enc : TypeId × Value → H) : ∃ places, DataW.whole enc Tryz.prog ((laidWorldS os).forCall (fun _ _ => 0) ⟨#[], #[.slice none 0 0], []⟩).memory Tryz.f3.params.toList Rows.fnClassesSpec.vars false #[Value.slice none 0 0].toList 8 = some ([.nil], [], places) :=
  ⟨[], by kernel_rfl⟩

set_option maxRecDepth 100000 in
theorem lifted (os : Os) (started : os.Started) (H : Type) (enc : TypeId × Value → H) (F : Stop.Interp) :
    ReturnsInHanded {} Tryz.checked os 3 .any ((OpenSpec.ofChange Rows.fnClassesSpec).preRow enc Tryz.prog Tryz.f3 Rows.fnClassesRow.domain false Rows.fnClassesRow.laid) (((OpenSpec.ofChange Rows.fnClassesSpec).at F).post enc Tryz.prog Tryz.f3 false true false false) := by
  obtain ⟨places, hx⟩ := reads os enc
  refine returnsInHanded_of_row (C := Tryz.checked) (s := OpenSpec.ofChange Rows.fnClassesSpec) own started (by kernel_rfl) Tryz.func3
    (witness_row_at (enc := enc) (C := Tryz.checked) false (laidWorldS os) #[.slice none 0 0] rfl (by kernel_rfl) (by kernel_rfl) (by kernel_rfl)
      (OpenSpec.preRow_of_cond 8 hx (by kernel_rfl) (fun k hk => by cases hk) (by kernel_rfl) (laid_met os))) ?_
  intro W base args ds gs before hval hW _ _ _ hL hS _
  exact contract H enc W base args ds gs before hval hW hL hS

theorem said : Rows.FnClassesSaid :=
  OpenClaim.holds_of_cond 3 Tryz.f3 rfl rfl rfl rfl rfl rfl rfl ⟨rfl, rfl, rfl, rfl, rfl⟩ rfl rfl rfl rfl rfl (by kernel_rfl) Tryz.func3 (by kernel_rfl)
    (of_decide_eq_true (by kernel_rfl)) (by unfold Func.isWrapper; first | (rw [if_pos (by decide +kernel)]; kernel_rfl) | (rw [if_neg (by decide +kernel)]; exact ⟨rfl, rfl⟩))
    (fun os started H enc _ F => by rw [OpenClaim.pre_eq_preRow]; exact lifted os started H enc F)

theorem plain (f : FuncId) (fn : Func) (hf : Tryz.pinned.checked.prog.funcNamed "loop.example/g03101/laws.FnClasses" = some f) (hfn : Tryz.pinned.checked.prog.funcs[f]? = some fn) :
    false = Tryz.pinned.checked.prog.looks [] ∧ ∀ (j : Nat) t, fn.params[j]? = some t → Tryz.pinned.checked.prog.wantsStandIn t = false := by
  obtain rfl : f = 3 := Option.some.inj ((show Tryz.prog.funcNamed "loop.example/g03101/laws.FnClasses" = some 3 by kernel_rfl).symm.trans hf) |>.symm
  obtain rfl : fn = Tryz.f3 := (Option.some.inj (Tryz.func3.symm.trans hfn)).symm
  refine ⟨by kernel_rfl, fun j t ht => ?_⟩
  rw [Tryz.params3] at ht
  obtain rfl : t = 22 := by simpa using Array.mem_of_getElem? ht
  exact (show Tryz.prog.wantsStandIn 22 = false by kernel_rfl)

theorem card : Rows.FnClassesCardSaid :=
  Claim7.holds_tied_plain_at .later [] _ _ _ _ said (fun _ h => by cases h) (by kernel_rfl) (fun _ h => by cases h) fnClasses_row_tie rfl ⟨rfl, rfl⟩ (by kernel_rfl) rfl plain (by kernel_rfl)
end Go.Proofs.YtplchjeamooliaaGreatDoor.fnClasses
