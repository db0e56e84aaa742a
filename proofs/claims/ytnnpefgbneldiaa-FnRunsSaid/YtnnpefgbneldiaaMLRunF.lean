/-
  THE LAW FnRuns: consecutive patterns are counted place by place, and alternating permutations follow their recursion. (Written by wip/tools/mkfnruns.py.)
-/
import Derived.Test.YtnnpefgbneldiaaB7
import Derived.Test.YtnnpefgbneldiaaB4
import Derived.Test.YtnnpefgbneldiaaB5
import Derived.Test.YtnnpefgbneldiaaB6









namespace Go.Proofs.Ytnnpefgbneldiaa.fnRuns
set_option maxRecDepth 100000
open Go.RowKit Go.ChangeShapes Go.WideShapes Go.ChangeAt

theorem revR_lite (p : List Int) : Lite 9 (revR p) := by
  cases h : isP p with
  | true => rw [revR_yes h]; exact ⟨by rw [List.length_reverse]; have := isP_le h; omega, isP_small (isP_rev h)⟩
  | false => rw [revR_no h]; exact ⟨by simp, small_nil⟩

set_option maxRecDepth 100000 in
set_option maxHeartbeats 12800000 in
theorem walk (A : Option Addr) (n c : Nat) (bs : List UInt8) (w : World) (hr : Reads w w.heap.size A n (u8s bs)) (hn : n ≤ maxLen) :
    Calls Try.prog 3 #[.slice A n c] w fun e w' => e = .returned (.bool true) ∧ Below w.heap.size w w' := by
  unfold maxLen at hn
  have HG := hide (big_any A n c hn w)
  by_cases hbig : n ≤ 1048576
  · rw [show decide (1048576 < n) = false from decide_eq_false (by omega)] at HG
    go_enter Try.func3, Try.ntmps3
    go_wp2_with fail
    refine (unhide HG).mono ?_
    rintro e w0 ⟨rfl, rfl⟩
    clear HG
    have hb := Below.refl w.heap.size w
    go_wp2_with fail
    refine (dcrun_any A n c w.heap.size bs w (hr.below hb) hbig hb.size).mono ?_
    rintro e w1 ⟨A_p, c_p, p, A_q, c_q, q, rfl, l_p, l_q, o_p, o_q, d⟩
    replace hb := below_after hb d
    clear d
    replace l_p := hide l_p
    replace l_q := hide l_q
    go_wp2_with fail
    refine (davr_any A n c w.heap.size bs w1 (hr.below hb) hbig hb.size).mono ?_
    rintro e w2 ⟨m, A_r, c_r, r, rfl, n_m, l_r, o_r, d⟩
    replace o_p := o_p.below d
    replace o_q := o_q.below d
    replace hb := below_after hb d
    clear d
    replace l_r := hide l_r
    go_wp2_with fail
    refine (dovl_any A n c w.heap.size bs w2 (hr.below hb) hbig hb.size).mono ?_
    rintro e w3 ⟨A_o, c_o, o, rfl, l_o, o_o, d⟩
    replace o_p := o_p.below d
    replace o_q := o_q.below d
    replace o_r := o_r.below d
    replace hb := below_after hb d
    clear d
    replace l_o := hide l_o
    go_wp2_with fail
    refine (iovl_any A_o _ c_o _ o w3 ((unhide l_o).arg o_o (by omega))).mono ?_
    rintro e w4 ⟨A_v, c_v, rfl, o_v, d⟩
    replace o_p := o_p.below d
    replace o_q := o_q.below d
    replace o_r := o_r.below d
    replace o_o := o_o.below d
    replace hb := below_after hb d
    clear d
    obtain ⟨bl, hbl⟩ : ∃ b, b = looseR o := ⟨_, rfl⟩
    obtain ⟨lv, hlv⟩ : ∃ l, l = ovlR o := ⟨_, rfl⟩
    rw [← hlv] at o_v ⊢
    obtain ⟨nv, hnv⟩ : ∃ n, n = lv.length := ⟨_, rfl⟩
    rw [← hnv] at o_v ⊢
    have hv8 : nv ≤ 8 := by rw [hnv, hlv]; exact ovlR_le o
    have hnl : ((nv : Int) == 1) = bl := by
      rw [hbl, hnv, hlv]; unfold looseR
      by_cases h1 : (ovlR o).length = 1
      · rw [decide_eq_true h1, h1]; rfl
      · rw [decide_eq_false h1]; simp; omega
    have HBL := hide hbl
    have HLV := hide hlv
    have HNV := hide hnv
    have HNL := hide hnl
    clear hbl hlv hnv hnl
    go_wp2_with fail
    refine (dalt_any A n c w.heap.size bs w4 (hr.below hb) hbig hb.size).mono ?_
    rintro e w5 ⟨A_a, c_a, a, rfl, l_a, o_a, d⟩
    replace o_p := o_p.below d
    replace o_q := o_q.below d
    replace o_r := o_r.below d
    replace o_o := o_o.below d
    replace o_v := o_v.below d
    replace hb := below_after hb d
    clear d
    replace l_a := hide l_a
    go_wp2_with fail
    refine (dcnta_any A n c w.heap.size bs w5 (hr.below hb) hbig hb.size).mono ?_
    rintro e w6 ⟨k, rfl, n_k, d⟩
    replace o_p := o_p.below d
    replace o_q := o_q.below d
    replace o_r := o_r.below d
    replace o_o := o_o.below d
    replace o_v := o_v.below d
    replace o_a := o_a.below d
    replace hb := below_after hb d
    clear d
    go_wp2_with fail
    refine (dcho_any A n c w.heap.size bs w6 (hr.below hb) hbig hb.size).mono ?_
    rintro e w7 ⟨x, y, rfl, n_x, n_y, d⟩
    replace o_p := o_p.below d
    replace o_q := o_q.below d
    replace o_r := o_r.below d
    replace o_o := o_o.below d
    replace o_v := o_v.below d
    replace o_a := o_a.below d
    replace hb := below_after hb d
    clear d
    obtain ⟨z1, hz1⟩ : ∃ z, z = numRun p q := ⟨_, rfl⟩
    have HZ1 := hide hz1
    clear hz1
    have H1 := hide (irun_any A_p A_q _ c_p _ _ c_q _ p q w7 ((unhide l_p).arg o_p (by omega)) ((unhide l_q).arg o_q (by omega)))
    rw [← unhide HZ1] at H1
    go_wp2_with fail
    refine (unhide H1).mono ?_
    rintro e w8 ⟨rfl, d⟩
    replace o_p := o_p.below d
    replace o_q := o_q.below d
    replace o_r := o_r.below d
    replace o_o := o_o.below d
    replace o_v := o_v.below d
    replace o_a := o_a.below d
    replace hb := below_after hb d
    clear d
    clear H1
    have H1 := hide (srun_any A_p A_q _ c_p _ _ c_q _ p q w8 ((unhide l_p).arg o_p (by omega)) ((unhide l_q).arg o_q (by omega)))
    rw [← unhide HZ1] at H1
    go_wp2_with fail
    refine (unhide H1).mono ?_
    rintro e w9 ⟨rfl, d⟩
    replace o_p := o_p.below d
    replace o_q := o_q.below d
    replace o_r := o_r.below d
    replace o_o := o_o.below d
    replace o_v := o_v.below d
    replace o_a := o_a.below d
    replace hb := below_after hb d
    clear d
    clear H1
    clear o_p
    clear o_q
    obtain ⟨z2, hz2⟩ : ∃ z, z = avR m r := ⟨_, rfl⟩
    have HZ2 := hide hz2
    clear hz2
    have H1 := hide (iav_any m (by omega) A_r _ c_r _ r w9 ((unhide l_r).arg o_r (by omega)))
    rw [← unhide HZ2] at H1
    go_wp2_with fail
    refine (unhide H1).mono ?_
    rintro e w10 ⟨rfl, d⟩
    replace o_r := o_r.below d
    replace o_o := o_o.below d
    replace o_v := o_v.below d
    replace o_a := o_a.below d
    replace hb := below_after hb d
    clear d
    clear H1
    have H1 := hide (sav_any m (by omega) A_r _ c_r _ r w10 ((unhide l_r).arg o_r (by omega)))
    rw [← unhide HZ2] at H1
    go_wp2_with fail
    refine (unhide H1).mono ?_
    rintro e w11 ⟨rfl, d⟩
    replace o_r := o_r.below d
    replace o_o := o_o.below d
    replace o_v := o_v.below d
    replace o_a := o_a.below d
    replace hb := below_after hb d
    clear d
    clear H1
    have H1 := hide (sovl_any A_o _ c_o _ o w11 ((unhide l_o).arg o_o (by omega)))
    rw [← unhide HLV] at H1
    go_wp2_with fail
    refine (unhide H1).mono ?_
    rintro e w12 ⟨A_u, c_u, rfl, o_u, d⟩
    replace o_r := o_r.below d
    replace o_o := o_o.below d
    replace o_v := o_v.below d
    replace o_a := o_a.below d
    replace hb := below_after hb d
    clear d
    clear H1
    rw [← unhide HNV] at o_u ⊢
    go_wp2_with fail
    refine (samei_any _ _ _ _ _ _ _ _ lv _ o_v.reads o_u.reads (by omega)).mono ?_
    rintro e w13 ⟨rfl, d0⟩
    have d := d0.below w12.heap.size
    clear d0
    replace o_r := o_r.below d
    replace o_o := o_o.below d
    replace o_v := o_v.below d
    replace o_a := o_a.below d
    replace o_u := o_u.below d
    replace hb := below_after hb d
    clear d
    clear o_u
    clear o_v
    obtain ⟨b3, hb3⟩ : ∃ z, z = altR a := ⟨_, rfl⟩
    have HB3 := hide hb3
    clear hb3
    have H1 := hide (ialt_any A_a _ c_a _ a w13 ((unhide l_a).arg o_a (by omega)))
    rw [← unhide HB3] at H1
    go_wp2_with fail
    refine (unhide H1).mono ?_
    rintro e w14 ⟨rfl, d⟩
    replace o_r := o_r.below d
    replace o_o := o_o.below d
    replace o_a := o_a.below d
    replace hb := below_after hb d
    clear d
    clear H1
    have H1 := hide (salt_any A_a _ c_a _ a w14 ((unhide l_a).arg o_a (by omega)))
    rw [← unhide HB3] at H1
    go_wp2_with fail
    refine (unhide H1).mono ?_
    rintro e w15 ⟨rfl, d⟩
    replace o_r := o_r.below d
    replace o_o := o_o.below d
    replace o_a := o_a.below d
    replace hb := below_after hb d
    clear d
    clear H1
    clear o_a
    obtain ⟨z4, hz4⟩ : ∃ z, z = altZ k := ⟨_, rfl⟩
    have HZ4 := hide hz4
    clear hz4
    have H1 := hide (icnta_any k (by omega) w15)
    rw [← unhide HZ4] at H1
    go_wp2_with fail
    refine (unhide H1).mono ?_
    rintro e w16 ⟨rfl, d⟩
    replace o_r := o_r.below d
    replace o_o := o_o.below d
    replace hb := below_after hb d
    clear d
    clear H1
    have H1 := hide (scnta_any k (by omega) w16)
    rw [← unhide HZ4] at H1
    go_wp2_with fail
    refine (unhide H1).mono ?_
    rintro e w17 ⟨rfl, d⟩
    replace o_r := o_r.below d
    replace o_o := o_o.below d
    replace hb := below_after hb d
    clear d
    clear H1
    obtain ⟨z5, hz5⟩ : ∃ z, z = choZ x y := ⟨_, rfl⟩
    have HZ5 := hide hz5
    clear hz5
    have H1 := hide (show Calls Try.prog 30 #[.int .i64 x, .int .i64 y] w17 (GivesN w17 (choZ x y)) from (icho_any x y (by omega) (by omega) w17).mono fun e w9 ⟨he, hw⟩ => ⟨he, by rw [hw]; exact Below.refl _ _⟩)
    rw [← unhide HZ5] at H1
    go_wp2_with fail
    refine (unhide H1).mono ?_
    rintro e w18 ⟨rfl, d⟩
    replace o_r := o_r.below d
    replace o_o := o_o.below d
    replace hb := below_after hb d
    clear d
    clear H1
    have H1 := hide (show Calls Try.prog 31 #[.int .i64 x, .int .i64 y] w18 (GivesN w18 (choZ x y)) from (scho_any x y (by omega) (by omega) w18).mono fun e w9 ⟨he, hw⟩ => ⟨he, by rw [hw]; exact Below.refl _ _⟩)
    rw [← unhide HZ5] at H1
    go_wp2_with fail
    refine (unhide H1).mono ?_
    rintro e w19 ⟨rfl, d⟩
    replace o_r := o_r.below d
    replace o_o := o_o.below d
    replace hb := below_after hb d
    clear d
    clear H1
    have H1 := hide (iloose_any A_o _ c_o _ o w19 ((unhide l_o).arg o_o (by omega)))
    rw [← unhide HBL] at H1
    have hnl := unhide HNL
    clear HNL
    go_wp2_with fail
    refine (unhide H1).mono ?_
    rintro e w20 ⟨rfl, d⟩
    replace o_r := o_r.below d
    replace o_o := o_o.below d
    replace hb := below_after hb d
    clear d
    clear H1
    clear o_o
    obtain ⟨nr, hnr⟩ : ∃ n, n = r.length := ⟨_, rfl⟩
    have HNR := hide hnr
    have hr9 : nr ≤ 9 := by rw [hnr]; exact (unhide l_r).1
    have o_r2 := o_r
    rw [← hnr] at o_r2 ⊢
    have HOR := hide o_r
    clear hnr o_r o_r2
    by_cases hm0 : m < 0
    · skip
      by_cases hk0 : k < 0
      · skip
        go_wp2
        go_ret
        exact ⟨rfl, hb⟩
      by_cases hk5 : 5 < k
      · skip
        go_wp2
        go_ret
        exact ⟨rfl, hb⟩
      obtain ⟨k, rfl⟩ : ∃ j : Nat, k = j := ⟨k.toNat, by omega⟩
      have hk : k ≤ 5 := by omega
      have hZ4 : z4 = ((altN k : Nat) : Int) := (unhide HZ4).trans (altZ_yes (by omega))
      have HC := hide (altC_all hk)
      subst hZ4
      have H1 := hide (fun w9 => by have h5 := sperms_any ((k : Nat) : Int) (by omega) w9; rw [permsR_yes (by omega)] at h5; exact h5 : ∀ w9, Calls Try.prog 34 #[.int .i64 (k : Int)] w9 (GivesSS w9 (permL k)))
      have hLs := (permL_small k (by omega)).1
      have HPP := hide (show ∀ (i : Nat) (z : List Int), (permL k)[i]? = some z → isP z = true from fun i z hz => permL_isP6 k (by omega) z (List.mem_of_getElem? hz))
      obtain ⟨Z, hZ⟩ : ∃ Z, Z = permL k := ⟨_, rfl⟩
      rw [← hZ] at H1 hLs HPP HC
      have hsk := altN_small k (by omega)
      clear hZ HZ4
      go_wp2_with fail
      refine (unhide H1 _).mono ?_
      rintro e w90 ⟨A9, c9, rfl, o9, d9⟩
      have hb9 := below_after hb d9
      have HO := hide o9
      obtain ⟨N, hN⟩ : ∃ N, N = Z.length := ⟨_, rfl⟩
      rw [← hN] at hLs HO HC ⊢
      clear H1 hb d9 o9 hN
      go_wp2
      go_loopw [13, 15] (fun s i wr => ∃ j : Nat, j ≤ N ∧ i = .int .i64 j ∧ s = .int .i64 ((altC Z j : Nat) : Int) ∧ Below w90.heap.size w90 wr) (fun _ i _ => N - (intOf i).toNat)
      case atStart => exact ⟨0, Nat.zero_le _, rfl, rfl, Below.refl _ _⟩
      case round =>
        obtain ⟨j, hj, rfl, rfl, hd⟩ := hrel
        have hle := altC_le Z j
        by_cases hlt : j < N
        · obtain ⟨ad, A6, c6, z, rfl, hz, hcell, hI⟩ := ((unhide HO).below hd).at_ hlt
          have hz1 := unhide HPP j z hz
          have hst := altC_step hz
          have H4 := hide (ialt_any A6 z.length c6 _ z wr (hI.argP hz1))
          obtain ⟨bz, hbz⟩ : ∃ b, b = altR z := ⟨_, rfl⟩
          rw [← hbz] at H4 hst
          have HD := hide hd
          clear hz hI hz1 hbz hd
          cases bz with
          | true =>
            rw [if_pos rfl] at hst
            have HST := hide hst
            clear hst
            go_wp2_with fail
            refine (unhide H4).mono ?_
            rintro e w91 ⟨rfl, d4⟩
            have hd4 := below_after (unhide HD) d4
            clear H4 HD d4
            go_wp2
            go_roundw
            case rel => exact ⟨j + 1, by omega, by go_num, by rw [unhide HST]; go_num, hd4⟩
            case measure => simp [intOf]; omega
          | false =>
            rw [if_neg (by decide)] at hst
            have HST := hide hst
            clear hst
            go_wp2_with fail
            refine (unhide H4).mono ?_
            rintro e w91 ⟨rfl, d4⟩
            have hd4 := below_after (unhide HD) d4
            clear H4 HD d4
            go_wp2
            go_roundw
            case rel => exact ⟨j + 1, by omega, by go_num, by rw [unhide HST]; rfl, hd4⟩
            case measure => simp [intOf]; omega
        · have hkN : N = j := by omega
          have hbe := below_after hb9 hd
          have hC : altC Z j = altN k := by rw [← hkN]; exact unhide HC
          rw [hC]
          have H5 := hide (by have h5 := icnta_any (k : Int) (by omega) wr; rw [altZ_yes (by omega)] at h5; exact h5 : Calls Try.prog 28 #[.int .i64 (k : Int)] wr (GivesN wr ((altN k : Nat) : Int)))
          obtain ⟨V, hV⟩ : ∃ V, V = altN k := ⟨_, rfl⟩
          rw [← hV] at H5 hsk ⊢
          clear hkN hd HC hC hV hle
          go_wp2_with fail
          refine (unhide H5).mono ?_
          rintro e w92 ⟨rfl, d5⟩
          have hb10 := below_after hbe d5
          clear H5 hbe d5
          go_wp2
          go_ret
          exact ⟨rfl, hb10⟩
    by_cases hr0 : nr = 0
    · subst hr0
      by_cases hk0 : k < 0
      · skip
        go_wp2
        go_ret
        exact ⟨rfl, hb⟩
      by_cases hk5 : 5 < k
      · skip
        go_wp2
        go_ret
        exact ⟨rfl, hb⟩
      obtain ⟨k, rfl⟩ : ∃ j : Nat, k = j := ⟨k.toNat, by omega⟩
      have hk : k ≤ 5 := by omega
      have hZ4 : z4 = ((altN k : Nat) : Int) := (unhide HZ4).trans (altZ_yes (by omega))
      have HC := hide (altC_all hk)
      subst hZ4
      have H1 := hide (fun w9 => by have h5 := sperms_any ((k : Nat) : Int) (by omega) w9; rw [permsR_yes (by omega)] at h5; exact h5 : ∀ w9, Calls Try.prog 34 #[.int .i64 (k : Int)] w9 (GivesSS w9 (permL k)))
      have hLs := (permL_small k (by omega)).1
      have HPP := hide (show ∀ (i : Nat) (z : List Int), (permL k)[i]? = some z → isP z = true from fun i z hz => permL_isP6 k (by omega) z (List.mem_of_getElem? hz))
      obtain ⟨Z, hZ⟩ : ∃ Z, Z = permL k := ⟨_, rfl⟩
      rw [← hZ] at H1 hLs HPP HC
      have hsk := altN_small k (by omega)
      clear hZ HZ4
      go_wp2_with fail
      refine (unhide H1 _).mono ?_
      rintro e w90 ⟨A9, c9, rfl, o9, d9⟩
      have hb9 := below_after hb d9
      have HO := hide o9
      obtain ⟨N, hN⟩ : ∃ N, N = Z.length := ⟨_, rfl⟩
      rw [← hN] at hLs HO HC ⊢
      clear H1 hb d9 o9 hN
      go_wp2
      go_loopw [13, 15] (fun s i wr => ∃ j : Nat, j ≤ N ∧ i = .int .i64 j ∧ s = .int .i64 ((altC Z j : Nat) : Int) ∧ Below w90.heap.size w90 wr) (fun _ i _ => N - (intOf i).toNat)
      case atStart => exact ⟨0, Nat.zero_le _, rfl, rfl, Below.refl _ _⟩
      case round =>
        obtain ⟨j, hj, rfl, rfl, hd⟩ := hrel
        have hle := altC_le Z j
        by_cases hlt : j < N
        · obtain ⟨ad, A6, c6, z, rfl, hz, hcell, hI⟩ := ((unhide HO).below hd).at_ hlt
          have hz1 := unhide HPP j z hz
          have hst := altC_step hz
          have H4 := hide (ialt_any A6 z.length c6 _ z wr (hI.argP hz1))
          obtain ⟨bz, hbz⟩ : ∃ b, b = altR z := ⟨_, rfl⟩
          rw [← hbz] at H4 hst
          have HD := hide hd
          clear hz hI hz1 hbz hd
          cases bz with
          | true =>
            rw [if_pos rfl] at hst
            have HST := hide hst
            clear hst
            go_wp2_with fail
            refine (unhide H4).mono ?_
            rintro e w91 ⟨rfl, d4⟩
            have hd4 := below_after (unhide HD) d4
            clear H4 HD d4
            go_wp2
            go_roundw
            case rel => exact ⟨j + 1, by omega, by go_num, by rw [unhide HST]; go_num, hd4⟩
            case measure => simp [intOf]; omega
          | false =>
            rw [if_neg (by decide)] at hst
            have HST := hide hst
            clear hst
            go_wp2_with fail
            refine (unhide H4).mono ?_
            rintro e w91 ⟨rfl, d4⟩
            have hd4 := below_after (unhide HD) d4
            clear H4 HD d4
            go_wp2
            go_roundw
            case rel => exact ⟨j + 1, by omega, by go_num, by rw [unhide HST]; rfl, hd4⟩
            case measure => simp [intOf]; omega
        · have hkN : N = j := by omega
          have hbe := below_after hb9 hd
          have hC : altC Z j = altN k := by rw [← hkN]; exact unhide HC
          rw [hC]
          have H5 := hide (by have h5 := icnta_any (k : Int) (by omega) wr; rw [altZ_yes (by omega)] at h5; exact h5 : Calls Try.prog 28 #[.int .i64 (k : Int)] wr (GivesN wr ((altN k : Nat) : Int)))
          obtain ⟨V, hV⟩ : ∃ V, V = altN k := ⟨_, rfl⟩
          rw [← hV] at H5 hsk ⊢
          clear hkN hd HC hC hV hle
          go_wp2_with fail
          refine (unhide H5).mono ?_
          rintro e w92 ⟨rfl, d5⟩
          have hb10 := below_after hbe d5
          clear H5 hbe d5
          go_wp2
          go_ret
          exact ⟨rfl, hb10⟩
    have hrp : (0 : Int) < (nr : Int) := by omega
    have hm5 : m ≤ 5 := by omega
    have HE := hide (av_rev (n := m) (q := r) (by omega) hm5 (by rw [← unhide HNR]; omega))
    have o_r := unhide HOR
    clear HOR
    have A1 := hide (iav_any m (by omega) A_r _ c_r _ r w20 ((unhide l_r).arg o_r (by omega)))
    rw [← unhide HZ2, ← unhide HNR] at A1
    go_wp2_with fail
    refine (unhide A1).mono ?_
    rintro e w21 ⟨rfl, d⟩
    replace o_r := o_r.below d
    replace hb := below_after hb d
    clear d
    clear A1
    have A1 := hide (srev_any A_r _ c_r _ r w21 ((unhide l_r).arg o_r (by omega)))
    rw [← unhide HNR] at A1
    go_wp2_with fail
    refine (unhide A1).mono ?_
    rintro e w22 ⟨A_t, c_t, rfl, o_t, d⟩
    replace o_r := o_r.below d
    replace hb := below_after hb d
    clear d
    clear A1
    have l_t := hide (revR_lite r)
    have A1 := hide (iav_any m (by omega) A_t _ c_t _ (revR r) w22 ((unhide l_t).arg o_t (by omega)))
    rw [unhide HE, ← unhide HZ2] at A1
    go_wp2_with fail
    refine (unhide A1).mono ?_
    rintro e w23 ⟨rfl, d⟩
    replace o_r := o_r.below d
    replace o_t := o_t.below d
    replace hb := below_after hb d
    clear d
    clear A1
    clear o_r
    clear o_t
    by_cases hk0 : k < 0
    · skip
      go_wp2
      go_ret
      exact ⟨rfl, hb⟩
    by_cases hk5 : 5 < k
    · skip
      go_wp2
      go_ret
      exact ⟨rfl, hb⟩
    obtain ⟨k, rfl⟩ : ∃ j : Nat, k = j := ⟨k.toNat, by omega⟩
    have hk : k ≤ 5 := by omega
    have hZ4 : z4 = ((altN k : Nat) : Int) := (unhide HZ4).trans (altZ_yes (by omega))
    have HC := hide (altC_all hk)
    subst hZ4
    have H1 := hide (fun w9 => by have h5 := sperms_any ((k : Nat) : Int) (by omega) w9; rw [permsR_yes (by omega)] at h5; exact h5 : ∀ w9, Calls Try.prog 34 #[.int .i64 (k : Int)] w9 (GivesSS w9 (permL k)))
    have hLs := (permL_small k (by omega)).1
    have HPP := hide (show ∀ (i : Nat) (z : List Int), (permL k)[i]? = some z → isP z = true from fun i z hz => permL_isP6 k (by omega) z (List.mem_of_getElem? hz))
    obtain ⟨Z, hZ⟩ : ∃ Z, Z = permL k := ⟨_, rfl⟩
    rw [← hZ] at H1 hLs HPP HC
    have hsk := altN_small k (by omega)
    clear hZ HZ4
    go_wp2_with fail
    refine (unhide H1 _).mono ?_
    rintro e w90 ⟨A9, c9, rfl, o9, d9⟩
    have hb9 := below_after hb d9
    have HO := hide o9
    obtain ⟨N, hN⟩ : ∃ N, N = Z.length := ⟨_, rfl⟩
    rw [← hN] at hLs HO HC ⊢
    clear H1 hb d9 o9 hN
    go_wp2
    go_loopw [13, 15] (fun s i wr => ∃ j : Nat, j ≤ N ∧ i = .int .i64 j ∧ s = .int .i64 ((altC Z j : Nat) : Int) ∧ Below w90.heap.size w90 wr) (fun _ i _ => N - (intOf i).toNat)
    case atStart => exact ⟨0, Nat.zero_le _, rfl, rfl, Below.refl _ _⟩
    case round =>
      obtain ⟨j, hj, rfl, rfl, hd⟩ := hrel
      have hle := altC_le Z j
      by_cases hlt : j < N
      · obtain ⟨ad, A6, c6, z, rfl, hz, hcell, hI⟩ := ((unhide HO).below hd).at_ hlt
        have hz1 := unhide HPP j z hz
        have hst := altC_step hz
        have H4 := hide (ialt_any A6 z.length c6 _ z wr (hI.argP hz1))
        obtain ⟨bz, hbz⟩ : ∃ b, b = altR z := ⟨_, rfl⟩
        rw [← hbz] at H4 hst
        have HD := hide hd
        clear hz hI hz1 hbz hd
        cases bz with
        | true =>
          rw [if_pos rfl] at hst
          have HST := hide hst
          clear hst
          go_wp2_with fail
          refine (unhide H4).mono ?_
          rintro e w91 ⟨rfl, d4⟩
          have hd4 := below_after (unhide HD) d4
          clear H4 HD d4
          go_wp2
          go_roundw
          case rel => exact ⟨j + 1, by omega, by go_num, by rw [unhide HST]; go_num, hd4⟩
          case measure => simp [intOf]; omega
        | false =>
          rw [if_neg (by decide)] at hst
          have HST := hide hst
          clear hst
          go_wp2_with fail
          refine (unhide H4).mono ?_
          rintro e w91 ⟨rfl, d4⟩
          have hd4 := below_after (unhide HD) d4
          clear H4 HD d4
          go_wp2
          go_roundw
          case rel => exact ⟨j + 1, by omega, by go_num, by rw [unhide HST]; rfl, hd4⟩
          case measure => simp [intOf]; omega
      · have hkN : N = j := by omega
        have hbe := below_after hb9 hd
        have hC : altC Z j = altN k := by rw [← hkN]; exact unhide HC
        rw [hC]
        have H5 := hide (by have h5 := icnta_any (k : Int) (by omega) wr; rw [altZ_yes (by omega)] at h5; exact h5 : Calls Try.prog 28 #[.int .i64 (k : Int)] wr (GivesN wr ((altN k : Nat) : Int)))
        obtain ⟨V, hV⟩ : ∃ V, V = altN k := ⟨_, rfl⟩
        rw [← hV] at H5 hsk ⊢
        clear hkN hd HC hC hV hle
        go_wp2_with fail
        refine (unhide H5).mono ?_
        rintro e w92 ⟨rfl, d5⟩
        have hb10 := below_after hbe d5
        clear H5 hbe d5
        go_wp2
        go_ret
        exact ⟨rfl, hb10⟩
  · rw [show decide (1048576 < n) = true from decide_eq_true (by omega)] at HG
    clear hr hn
    go_enter Try.func3, Try.ntmps3
    go_wp2_with fail
    refine (unhide HG).mono ?_
    rintro e w0 ⟨rfl, rfl⟩
    go_wp2
    go_ret
    exact ⟨rfl, Below.refl _ _⟩
theorem params_ok : ∀ t ∈ (#[22] : Array TypeId).toList, Try.prog.readableRec t = true ∧ t < Try.prog.types.size := by
  intro t ht
  simp only [List.mem_cons, List.not_mem_nil, or_false] at ht
  subst ht
  exact ⟨by kernel_rfl, of_decide_eq_true (by kernel_rfl)⟩

set_option maxRecDepth 100000 in
/-- WHAT THE WALK GIVES, FOR EVERY ARGUMENT. -/
theorem contract (H : Type) (enc : TypeId × Value → H) (W : World) (base : Nat) (args : Array Value) (ds gs : List (DataW H)) (before : List MemPlace)
    (hval : ∀ (j : Nat) t v, Try.f3.params[j]? = some t → args[j]? = some v → Value.okWide Try.prog W .any base t v)
    (hW : DataW.Whole enc Try.prog Try.f3.params.toList Rows.fnRunsSpec.vars false W args.toList ds gs before) :
    Calls Try.prog 3 args W fun e W' => ∃ v, e = .returned v ∧ Rows.fnRunsSpec.post enc Try.prog Try.f3 false true false false W args v W' := by
  have hW' := hW
  obtain ⟨p, q, hA0, hV, rfl, hfz, hnd⟩ := hW
  have hA : DataW.TrodAll enc Try.prog W 0 (fun _ => true) true Try.f3.params.toList args.toList ds p := hA0
  rw [Try.params3] at hA hval
  obtain ⟨v0, d0, rfl, rfl, h0⟩ := trodAll_one hA
  obtain ⟨rfl, rfl⟩ := trodVars_none hV
  obtain ⟨Abs, nbs, cbs, bs, rfl, hrbs, hnbs⟩ := open_bytes_reads Try.underlying22 Try.underlying5 cellsByte (hval 0 22 v0 rfl rfl) h0 (fun x hx => by simpa using hW'.lt x (by simp [hx]))
  refine (walk Abs nbs cbs bs W hrbs hnbs).mono fun e W' ⟨he, hb⟩ => ?_
  subst he
  exact ⟨_, rfl, law_end laidOut (by rw [Try.params3]; exact params_ok) Try.underlying4 rfl rfl hW' rfl hb⟩

set_option maxRecDepth 100000 in
theorem lifted (os : Os) (started : os.Started) (H : Type) (enc : TypeId × Value → H) :
    ReturnsInHanded {} Try.checked os 3 .any (Rows.fnRunsSpec.pre6 enc Try.prog Try.f3 Rows.fnRunsRow.domain false) (Rows.fnRunsSpec.post enc Try.prog Try.f3 false true false false) := by
  refine returnsInHanded_of_change (C := Try.checked) own started (by kernel_rfl) Try.func3
    (ChangeSpec.witness6 (enc := enc) (C := Try.checked) false ⟨#[], #[.slice none 0 0], []⟩ 8 (by kernel_rfl) (by kernel_rfl) (by kernel_rfl) (by kernel_rfl)) ?_
  intro W base args ds gs before hval hW _ _
  exact contract H enc W base args ds gs before hval hW

theorem proved : Rows.FnRunsSaid :=
  OpenClaim.holds_of_wide 3 Try.f3 rfl rfl rfl rfl rfl rfl rfl ⟨rfl, rfl, rfl, rfl, rfl⟩ rfl rfl rfl rfl rfl (by kernel_rfl) Try.func3 (by kernel_rfl)
    (of_decide_eq_true (by kernel_rfl)) (by unfold Func.isWrapper; first | (rw [if_pos (by decide +kernel)]; kernel_rfl) | (rw [if_neg (by decide +kernel)]; exact ⟨rfl, rfl⟩))
    (fun os started H enc _ => lifted os started H enc)
end Go.Proofs.Ytnnpefgbneldiaa.fnRuns
