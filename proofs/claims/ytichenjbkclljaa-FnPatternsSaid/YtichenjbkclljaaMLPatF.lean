/-
  THE LAW FnPatterns: occurrences are what they say, and patterns of patterns are patterns. (Written by wip/tools/mkfnpat.py.)
-/
import Derived.Test.YtichenjbkclljaaB9
import Derived.Test.YtichenjbkclljaaB6
import Derived.Test.YtichenjbkclljaaB4
import Derived.Test.YtichenjbkclljaaB3
import Derived.Test.YtichenjbkclljaaB5














namespace Go.Proofs.Ytichenjbkclljaa.fnPatterns
set_option maxRecDepth 100000
open Go.RowKit Go.ChangeShapes Go.WideShapes Go.ChangeAt

theorem lite_isP {p : List Int} (h : isP p = true) : Lite 9 p := ⟨by have := isP_le h; omega, isP_small h⟩
theorem invR_lite {p : List Int} (h : isP p = true) : Lite 9 (invR p) := by rw [invR_yes h]; exact lite_isP (isP_inv h)
theorem revR_lite {p : List Int} (h : isP p = true) : Lite 9 (revR p) := by rw [revR_yes h]; exact lite_isP (isP_rev h)
theorem wplR_lite {s : List Int} {x : Int} (h : wplOK s x = true) : Lite 9 (wplR s x) := by
  have hp : isP s = true := by unfold wplOK at h; rw [Bool.and_eq_true] at h; exact h.1
  rw [wplR_yes h]
  exact lite_isP (cutAt_isP hp _)
theorem occ_rows (p q : List Int) : (occR p q).length ≤ 256 ∧ tot (occR p q) ≤ 2048 ∧ ∀ z ∈ occR p q, Lite 9 z := ⟨(occ_room p q).1, (occ_room p q).2, fun _ hz => occ_lite hz⟩
theorem pats_rows (p : List Int) (k : Int) : (patsR p k).length ≤ 256 ∧ tot (patsR p k) ≤ 2048 ∧ ∀ z ∈ patsR p k, Lite 9 z := ⟨(pats_size p k).1, (pats_size p k).2, fun _ hz => lite_isP (pats_all hz)⟩
theorem low_rows (p : List Int) : (lowR p).length ≤ 8 ∧ tot (lowR p) ≤ 64 ∧ ∀ z ∈ lowR p, Lite 9 z := ⟨(low_size p).1, (low_size p).2, fun _ hz => lite_isP (low_all hz)⟩

set_option maxRecDepth 100000 in
set_option maxHeartbeats 12800000 in
theorem walk (A : Option Addr) (n c : Nat) (bs : List UInt8) (w : World) (hr : Reads w w.heap.size A n (u8s bs)) (hn : n ≤ maxLen) :
    Calls Try.prog 3 #[.slice A n c] w fun e w' => e = .returned (.bool true) ∧ Below w.heap.size w w' := by
  unfold maxLen at hn
  have HG := hide (big_any A n c hn w)
  by_cases hbig : n ≤ 1048576
  · rw [show decide (1048576 < n) = false from decide_eq_false (by omega)] at HG
    go_enter Try.func3, Try.ntmps3
    go_wp2_with fail
    refine (unhide HG).mono ?_
    rintro e w0 ⟨rfl, rfl⟩
    clear HG
    have hb := Below.refl w.heap.size w
    go_wp2_with fail
    refine (docc_any A n c w.heap.size bs w (hr.below hb) hbig hb.size).mono ?_
    rintro e w1 ⟨A_p, c_p, p, A_q, c_q, q, rfl, l_p, l_q, o_p, o_q, d⟩
    replace hb := below_after hb d
    clear d
    replace l_p := hide l_p
    replace l_q := hide l_q
    go_wp2_with fail
    refine (ioccs_any A_p A_q _ c_p _ _ c_q _ p q w1 ((unhide l_p).arg o_p (by omega)) ((unhide l_q).arg o_q (by omega))).mono ?_
    rintro e w2 ⟨A_v, c_v, rfl, o_v, d⟩
    replace o_p := o_p.below d
    replace o_q := o_q.below d
    replace hb := below_after hb d
    clear d
    go_wp2_with fail
    refine (disocc_any A n c w.heap.size bs w2 (hr.below hb) hbig hb.size).mono ?_
    rintro e w3 ⟨A_a, c_a, a, A_b, c_b, b, A_g, c_g, g, rfl, l_a, l_b, l_g, o_a, o_b, o_g, d⟩
    replace o_p := o_p.below d
    replace o_q := o_q.below d
    replace o_v := o_v.below d
    replace hb := below_after hb d
    clear d
    replace l_a := hide l_a
    replace l_b := hide l_b
    replace l_g := hide l_g
    go_wp2_with fail
    refine (dpats_any A n c w.heap.size bs w3 (hr.below hb) hbig hb.size).mono ?_
    rintro e w4 ⟨A_r, c_r, r, k, rfl, l_r, n_k, o_r, d⟩
    replace o_p := o_p.below d
    replace o_q := o_q.below d
    replace o_v := o_v.below d
    replace o_a := o_a.below d
    replace o_b := o_b.below d
    replace o_g := o_g.below d
    replace hb := below_after hb d
    clear d
    replace l_r := hide l_r
    go_wp2_with fail
    refine (ipats_any A_r _ c_r _ r k w4 ((unhide l_r).arg o_r (by omega))).mono ?_
    rintro e w5 ⟨A_u, c_u, rfl, o_u, d⟩
    replace o_p := o_p.below d
    replace o_q := o_q.below d
    replace o_v := o_v.below d
    replace o_a := o_a.below d
    replace o_b := o_b.below d
    replace o_g := o_g.below d
    replace o_r := o_r.below d
    replace hb := below_after hb d
    clear d
    go_wp2_with fail
    refine (dwpl_any A n c w.heap.size bs w5 (hr.below hb) hbig hb.size).mono ?_
    rintro e w6 ⟨A_s, c_s, s, j, rfl, l_s, n_j, o_s, d⟩
    replace o_p := o_p.below d
    replace o_q := o_q.below d
    replace o_v := o_v.below d
    replace o_a := o_a.below d
    replace o_b := o_b.below d
    replace o_g := o_g.below d
    replace o_r := o_r.below d
    replace o_u := o_u.below d
    replace hb := below_after hb d
    clear d
    replace l_s := hide l_s
    go_wp2_with fail
    refine (iwpl_any A_s _ c_s _ s j w6 ((unhide l_s).arg o_s (by omega)) n_j).mono ?_
    rintro e w7 ⟨A_t, c_t, rfl, o_t, d⟩
    replace o_p := o_p.below d
    replace o_q := o_q.below d
    replace o_v := o_v.below d
    replace o_a := o_a.below d
    replace o_b := o_b.below d
    replace o_g := o_g.below d
    replace o_r := o_r.below d
    replace o_u := o_u.below d
    replace o_s := o_s.below d
    replace hb := below_after hb d
    clear d
    go_wp2_with fail
    refine (swpl_any A_s _ c_s _ s j w7 ((unhide l_s).arg o_s (by omega)) n_j).mono ?_
    rintro e w8 ⟨A_y, c_y, rfl, o_y, d⟩
    replace o_p := o_p.below d
    replace o_q := o_q.below d
    replace o_v := o_v.below d
    replace o_a := o_a.below d
    replace o_b := o_b.below d
    replace o_g := o_g.below d
    replace o_r := o_r.below d
    replace o_u := o_u.below d
    replace o_s := o_s.below d
    replace o_t := o_t.below d
    replace hb := below_after hb d
    clear d
    obtain ⟨ok, hok⟩ : ∃ ok, wplOK s j = ok := ⟨_, rfl⟩
    rw [hok]
    have HOK := hide hok
    clear hok
    go_wp2_with fail
    refine (soccs_any A_p A_q _ c_p _ _ c_q _ p q w8 ((unhide l_p).arg o_p (by omega)) ((unhide l_q).arg o_q (by omega))).mono ?_
    rintro e w9 ⟨A_x, c_x, rfl, o_x, d⟩
    replace o_p := o_p.below d
    replace o_q := o_q.below d
    replace o_v := o_v.below d
    replace o_a := o_a.below d
    replace o_b := o_b.below d
    replace o_g := o_g.below d
    replace o_r := o_r.below d
    replace o_u := o_u.below d
    replace o_s := o_s.below d
    replace o_t := o_t.below d
    replace o_y := o_y.below d
    replace hb := below_after hb d
    clear d
    go_wp2_with fail
    refine (samess_any _ _ _ _ _ _ _ _ _ _ o_v o_x (by have := (occ_rows p q).1; omega) (by have := (occ_rows p q).2.1; omega)).mono ?_
    rintro e w10 ⟨rfl, d0⟩
    have d := d0.below w9.heap.size
    clear d0
    replace o_p := o_p.below d
    replace o_q := o_q.below d
    replace o_v := o_v.below d
    replace o_a := o_a.below d
    replace o_b := o_b.below d
    replace o_g := o_g.below d
    replace o_r := o_r.below d
    replace o_u := o_u.below d
    replace o_s := o_s.below d
    replace o_t := o_t.below d
    replace o_y := o_y.below d
    replace o_x := o_x.below d
    replace hb := below_after hb d
    clear d
    clear o_x
    go_wp2_with fail
    refine (iisocc_any A_a A_b A_g _ c_a _ _ c_b _ _ c_g _ a b g w10 ((unhide l_a).arg o_a (by omega)) ((unhide l_b).arg o_b (by omega)) ((unhide l_g).arg o_g (by omega))).mono ?_
    rintro e w11 ⟨rfl, d⟩
    replace o_p := o_p.below d
    replace o_q := o_q.below d
    replace o_v := o_v.below d
    replace o_a := o_a.below d
    replace o_b := o_b.below d
    replace o_g := o_g.below d
    replace o_r := o_r.below d
    replace o_u := o_u.below d
    replace o_s := o_s.below d
    replace o_t := o_t.below d
    replace o_y := o_y.below d
    replace hb := below_after hb d
    clear d
    go_wp2_with fail
    refine (sisocc_any A_a A_b A_g _ c_a _ _ c_b _ _ c_g _ a b g w11 ((unhide l_a).arg o_a (by omega)) ((unhide l_b).arg o_b (by omega)) ((unhide l_g).arg o_g (by omega))).mono ?_
    rintro e w12 ⟨rfl, d⟩
    replace o_p := o_p.below d
    replace o_q := o_q.below d
    replace o_v := o_v.below d
    replace o_a := o_a.below d
    replace o_b := o_b.below d
    replace o_g := o_g.below d
    replace o_r := o_r.below d
    replace o_u := o_u.below d
    replace o_s := o_s.below d
    replace o_t := o_t.below d
    replace o_y := o_y.below d
    replace hb := below_after hb d
    clear d
    clear o_a
    clear o_b
    clear o_g
    go_wp2_with fail
    refine (spats_any A_r _ c_r _ r k w12 ((unhide l_r).arg o_r (by omega))).mono ?_
    rintro e w13 ⟨A_x, c_x, rfl, o_x, d⟩
    replace o_p := o_p.below d
    replace o_q := o_q.below d
    replace o_v := o_v.below d
    replace o_r := o_r.below d
    replace o_u := o_u.below d
    replace o_s := o_s.below d
    replace o_t := o_t.below d
    replace o_y := o_y.below d
    replace hb := below_after hb d
    clear d
    go_wp2_with fail
    refine (samess_any _ _ _ _ _ _ _ _ _ _ o_u o_x (by have := (pats_rows r k).1; omega) (by have := (pats_rows r k).2.1; omega)).mono ?_
    rintro e w14 ⟨rfl, d0⟩
    have d := d0.below w13.heap.size
    clear d0
    replace o_p := o_p.below d
    replace o_q := o_q.below d
    replace o_v := o_v.below d
    replace o_r := o_r.below d
    replace o_u := o_u.below d
    replace o_s := o_s.below d
    replace o_t := o_t.below d
    replace o_y := o_y.below d
    replace o_x := o_x.below d
    replace hb := below_after hb d
    clear d
    clear o_x
    go_wp2_with fail
    refine (samei_any _ _ _ _ _ _ _ _ _ _ o_t.reads o_y.reads (by have := wplR_le s j; omega)).mono ?_
    rintro e w15 ⟨rfl, d0⟩
    have d := d0.below w14.heap.size
    clear d0
    replace o_p := o_p.below d
    replace o_q := o_q.below d
    replace o_v := o_v.below d
    replace o_r := o_r.below d
    replace o_u := o_u.below d
    replace o_s := o_s.below d
    replace o_t := o_t.below d
    replace o_y := o_y.below d
    replace hb := below_after hb d
    clear d
    clear o_y
    go_wp2_with fail
    refine (icntp_any A_p A_q _ c_p _ _ c_q _ p q w15 ((unhide l_p).arg o_p (by omega)) ((unhide l_q).arg o_q (by omega))).mono ?_
    rintro e w16 ⟨rfl, d⟩
    replace o_p := o_p.below d
    replace o_q := o_q.below d
    replace o_v := o_v.below d
    replace o_r := o_r.below d
    replace o_u := o_u.below d
    replace o_s := o_s.below d
    replace o_t := o_t.below d
    replace hb := below_after hb d
    clear d
    go_wp2_with fail
    refine (scnt_any A_p A_q _ c_p _ _ c_q _ p q w16 ((unhide l_p).arg o_p (by omega)) ((unhide l_q).arg o_q (by omega))).mono ?_
    rintro e w17 ⟨rfl, d⟩
    replace o_p := o_p.below d
    replace o_q := o_q.below d
    replace o_v := o_v.below d
    replace o_r := o_r.below d
    replace o_u := o_u.below d
    replace o_s := o_s.below d
    replace o_t := o_t.below d
    replace hb := below_after hb d
    clear d
    go_wp2_with fail
    refine (ihas_any A_p A_q _ c_p _ _ c_q _ p q w17 ((unhide l_p).arg o_p (by omega)) ((unhide l_q).arg o_q (by omega))).mono ?_
    rintro e w18 ⟨rfl, d⟩
    replace o_p := o_p.below d
    replace o_q := o_q.below d
    replace o_v := o_v.below d
    replace o_r := o_r.below d
    replace o_u := o_u.below d
    replace o_s := o_s.below d
    replace o_t := o_t.below d
    replace hb := below_after hb d
    clear d
    go_wp2_with fail
    refine (shas_any A_p A_q _ c_p _ _ c_q _ p q w18 ((unhide l_p).arg o_p (by omega)) ((unhide l_q).arg o_q (by omega))).mono ?_
    rintro e w19 ⟨rfl, d⟩
    replace o_p := o_p.below d
    replace o_q := o_q.below d
    replace o_v := o_v.below d
    replace o_r := o_r.below d
    replace o_u := o_u.below d
    replace o_s := o_s.below d
    replace o_t := o_t.below d
    replace hb := below_after hb d
    clear d
    go_wp2_with fail
    refine (ilow_any A_s _ c_s _ s w19 ((unhide l_s).arg o_s (by omega))).mono ?_
    rintro e w20 ⟨A_x, c_x, rfl, o_x, d⟩
    replace o_p := o_p.below d
    replace o_q := o_q.below d
    replace o_v := o_v.below d
    replace o_r := o_r.below d
    replace o_u := o_u.below d
    replace o_s := o_s.below d
    replace o_t := o_t.below d
    replace hb := below_after hb d
    clear d
    go_wp2_with fail
    refine (slow_any A_s _ c_s _ s w20 ((unhide l_s).arg o_s (by omega))).mono ?_
    rintro e w21 ⟨A_z, c_z, rfl, o_z, d⟩
    replace o_p := o_p.below d
    replace o_q := o_q.below d
    replace o_v := o_v.below d
    replace o_r := o_r.below d
    replace o_u := o_u.below d
    replace o_s := o_s.below d
    replace o_t := o_t.below d
    replace o_x := o_x.below d
    replace hb := below_after hb d
    clear d
    go_wp2_with fail
    refine (samess_any _ _ _ _ _ _ _ _ _ _ o_x o_z (by have := (low_rows s).1; omega) (by have := (low_rows s).2.1; omega)).mono ?_
    rintro e w22 ⟨rfl, d0⟩
    have d := d0.below w21.heap.size
    clear d0
    replace o_p := o_p.below d
    replace o_q := o_q.below d
    replace o_v := o_v.below d
    replace o_r := o_r.below d
    replace o_u := o_u.below d
    replace o_s := o_s.below d
    replace o_t := o_t.below d
    replace o_x := o_x.below d
    replace o_z := o_z.below d
    replace hb := below_after hb d
    clear d
    clear o_x
    clear o_z
    obtain ⟨lv, hlv⟩ : ∃ lv, lv = occR p q := ⟨_, rfl⟩
    have HMV := hide (fun z (hz : z ∈ lv) => (show isOcc p q z = true ∧ Lite 9 z from by rw [hlv] at hz; exact ⟨occ_is hz, occ_lite hz⟩))
    rw [← hlv] at o_v ⊢
    obtain ⟨nv, hnv⟩ : ∃ nv, nv = lv.length := ⟨_, rfl⟩
    rw [← hnv] at o_v ⊢
    have hv64 : nv ≤ 256 := by rw [hnv, hlv]; exact (occ_rows p q).1
    have HLV := hide hlv
    have HNV := hide hnv
    clear hlv hnv
    obtain ⟨lu, hlu⟩ : ∃ lu, lu = patsR r k := ⟨_, rfl⟩
    have HMU := hide (fun z (hz : z ∈ lu) => (show hasR r z = true ∧ Lite 9 z from by rw [hlu] at hz; exact ⟨pats_has hz, (pats_rows r k).2.2 z hz⟩))
    rw [← hlu] at o_u ⊢
    obtain ⟨nu, hnu⟩ : ∃ nu, nu = lu.length := ⟨_, rfl⟩
    rw [← hnu] at o_u ⊢
    have hu64 : nu ≤ 256 := by rw [hnu, hlu]; exact (pats_rows r k).1
    clear hlu hnu
    have hk0 := Below.refl w22.heap.size w22
    have hbw := hb
    go_wp2
    go_loopw [18] (fun i wr => ∃ k : Nat, k ≤ nv ∧ i = .int .i64 k ∧ Below w22.heap.size w22 wr) (fun i _ => nv - (intOf i).toNat)
    case atStart => exact ⟨0, Nat.zero_le _, rfl, hk0⟩
    case round =>
      obtain ⟨i_, hi_, rfl, hbk⟩ := hrel
      clear hk0 hbw
      by_cases hlt : i_ < nv
      · obtain ⟨ad, A1, c1, z, rfl, hadl, hz, hcell, hIz⟩ := rows_in (o_v.below hbk) hlt
        obtain ⟨hfact, lz⟩ := unhide HMV z (List.mem_of_getElem? hz)
        have HX := hide (iisocc_any A_p A_q A1 _ c_p _ _ c_q _ _ c1 _ p q z wr (((unhide l_p).arg o_p (by omega)).below hbk) (((unhide l_q).arg o_q (by omega)).below hbk) (lz.arg hIz (by omega)))
        rw [hfact] at HX
        clear hIz hz hfact lz
        go_wp2_with fail
        refine (unhide HX).mono ?_
        rintro e w9 ⟨rfl, d⟩
        have hbk2 := below_after hbk d
        clear d HX hbk hcell
        go_wp2
        go_roundw
        case rel => exact ⟨i_ + 1, by omega, by go_num, hbk2⟩
        case measure => simp [intOf]; omega
      · obtain rfl : nv = i_ := by omega
        clear o_v
        replace o_p := o_p.below hbk
        replace o_q := o_q.below hbk
        replace o_r := o_r.below hbk
        replace o_u := o_u.below hbk
        replace o_s := o_s.below hbk
        replace o_t := o_t.below hbk
        replace hb := below_after hb hbk
        clear hbk hlt hi_
        obtain ⟨wu1, rfl⟩ : ∃ wu, wu = wr := ⟨_, rfl⟩
        have hk0 := Below.refl wu1.heap.size wu1
        have hbw := hb
        go_wp2
        go_loopw [19] (fun i wr => ∃ k : Nat, k ≤ nu ∧ i = .int .i64 k ∧ Below wu1.heap.size wu1 wr) (fun i _ => nu - (intOf i).toNat)
        case atStart => exact ⟨0, Nat.zero_le _, rfl, hk0⟩
        case round =>
          obtain ⟨i_, hi_, rfl, hbk⟩ := hrel
          clear hk0 hbw
          by_cases hlt : i_ < nu
          · obtain ⟨ad, A1, c1, z, rfl, hadl, hz, hcell, hIz⟩ := rows_in (o_u.below hbk) hlt
            obtain ⟨hfact, lz⟩ := unhide HMU z (List.mem_of_getElem? hz)
            have HX := hide (ihas_any A_r A1 _ c_r _ _ c1 _ r z wr (((unhide l_r).arg o_r (by omega)).below hbk) (lz.arg hIz (by omega)))
            rw [hfact] at HX
            clear hIz hz hfact lz
            go_wp2_with fail
            refine (unhide HX).mono ?_
            rintro e w9 ⟨rfl, d⟩
            have hbk2 := below_after hbk d
            clear d HX hbk hcell
            go_wp2
            go_roundw
            case rel => exact ⟨i_ + 1, by omega, by go_num, hbk2⟩
            case measure => simp [intOf]; omega
          · obtain rfl : nu = i_ := by omega
            clear o_u
            replace o_p := o_p.below hbk
            replace o_q := o_q.below hbk
            replace o_r := o_r.below hbk
            replace o_s := o_s.below hbk
            replace o_t := o_t.below hbk
            replace hb := below_after hb hbk
            clear hbk hlt hi_
            obtain ⟨wu2, rfl⟩ : ∃ wu, wu = wr := ⟨_, rfl⟩
            clear o_r
            obtain ⟨bp, hp⟩ : ∃ b, isP p = b := ⟨_, rfl⟩
            obtain ⟨bq, hq⟩ : ∃ b, isP q = b := ⟨_, rfl⟩
            go_wp2_with fail
            refine (sisperm_any A_p _ c_p _ p bp hp wu2 ((unhide l_p).arg o_p (by omega)).reads ((unhide l_p).arg o_p (by omega)).le ((unhide l_p).arg o_p (by omega)).cap).mono ?_
            rintro e w123 ⟨rfl, d0⟩
            have d := d0.below wu2.heap.size
            clear d0
            replace o_p := o_p.below d
            replace o_q := o_q.below d
            replace o_s := o_s.below d
            replace o_t := o_t.below d
            replace hb := below_after hb d
            clear d
            cases bp with
            | false =>
              clear o_p
              clear o_q
              cases ok with
              | false =>
                go_wp2
                go_ret
                exact ⟨rfl, hb⟩
              | true =>
                have hok := unhide HOK
                have l_t := hide (wplR_lite hok)
                have HH := hide (wpl_has hok)
                have HL := hide (wpl_low hok)
                clear hok HOK
                have H1 := hide (ihas_any A_s A_t _ c_s _ _ c_t _ s (wplR s j) w123 ((unhide l_s).arg o_s (by omega)) ((unhide l_t).arg o_t (by omega)))
                rw [unhide HH] at H1
                go_wp2_with fail
                refine (unhide H1).mono ?_
                rintro e w124 ⟨rfl, d⟩
                replace o_s := o_s.below d
                replace o_t := o_t.below d
                replace hb := below_after hb d
                clear d
                go_wp2_with fail
                refine (ilow_any A_s _ c_s _ s w124 ((unhide l_s).arg o_s (by omega))).mono ?_
                rintro e w125 ⟨A_x, c_x, rfl, o_x, d⟩
                replace o_s := o_s.below d
                replace o_t := o_t.below d
                replace hb := below_after hb d
                clear d
                go_wp2_with fail
                refine (has_any A_x A_t _ c_x _ _ c_t _ (lowR s) (wplR s j) w125 o_x ((unhide l_t).arg o_t (by omega)) (fun z hz => ⟨by have := ((low_rows s).2.2 z hz).1; omega, ((low_rows s).2.2 z hz).2⟩) (by have := (low_rows s).1; omega) (unhide HL)).mono ?_
                rintro e w126 ⟨rfl, d0⟩
                have d := d0.below w125.heap.size
                clear d0
                replace o_s := o_s.below d
                replace o_t := o_t.below d
                replace o_x := o_x.below d
                replace hb := below_after hb d
                clear d
                clear o_s
                clear o_t
                clear o_x
                go_wp2
                go_ret
                exact ⟨rfl, hb⟩
            | true =>
              go_wp2_with fail
              refine (sisperm_any A_q _ c_q _ q bq hq w123 ((unhide l_q).arg o_q (by omega)).reads ((unhide l_q).arg o_q (by omega)).le ((unhide l_q).arg o_q (by omega)).cap).mono ?_
              rintro e w124 ⟨rfl, d0⟩
              have d := d0.below w123.heap.size
              clear d0
              replace o_p := o_p.below d
              replace o_q := o_q.below d
              replace o_s := o_s.below d
              replace o_t := o_t.below d
              replace hb := below_after hb d
              clear d
              cases bq with
              | false =>
                clear o_p
                clear o_q
                cases ok with
                | false =>
                  go_wp2
                  go_ret
                  exact ⟨rfl, hb⟩
                | true =>
                  have hok := unhide HOK
                  have l_t := hide (wplR_lite hok)
                  have HH := hide (wpl_has hok)
                  have HL := hide (wpl_low hok)
                  clear hok HOK
                  have H1 := hide (ihas_any A_s A_t _ c_s _ _ c_t _ s (wplR s j) w124 ((unhide l_s).arg o_s (by omega)) ((unhide l_t).arg o_t (by omega)))
                  rw [unhide HH] at H1
                  go_wp2_with fail
                  refine (unhide H1).mono ?_
                  rintro e w125 ⟨rfl, d⟩
                  replace o_s := o_s.below d
                  replace o_t := o_t.below d
                  replace hb := below_after hb d
                  clear d
                  go_wp2_with fail
                  refine (ilow_any A_s _ c_s _ s w125 ((unhide l_s).arg o_s (by omega))).mono ?_
                  rintro e w126 ⟨A_x, c_x, rfl, o_x, d⟩
                  replace o_s := o_s.below d
                  replace o_t := o_t.below d
                  replace hb := below_after hb d
                  clear d
                  go_wp2_with fail
                  refine (has_any A_x A_t _ c_x _ _ c_t _ (lowR s) (wplR s j) w126 o_x ((unhide l_t).arg o_t (by omega)) (fun z hz => ⟨by have := ((low_rows s).2.2 z hz).1; omega, ((low_rows s).2.2 z hz).2⟩) (by have := (low_rows s).1; omega) (unhide HL)).mono ?_
                  rintro e w127 ⟨rfl, d0⟩
                  have d := d0.below w126.heap.size
                  clear d0
                  replace o_s := o_s.below d
                  replace o_t := o_t.below d
                  replace o_x := o_x.below d
                  replace hb := below_after hb d
                  clear d
                  clear o_s
                  clear o_t
                  clear o_x
                  go_wp2
                  go_ret
                  exact ⟨rfl, hb⟩
              | true =>
                go_wp2_with fail
                refine (sinv_any A_p _ c_p _ p true hp w124 ((unhide l_p).arg o_p (by omega))).mono ?_
                rintro e w125 ⟨A_f, c_f, rfl, o_f, d⟩
                replace o_p := o_p.below d
                replace o_q := o_q.below d
                replace o_s := o_s.below d
                replace o_t := o_t.below d
                replace hb := below_after hb d
                clear d
                go_wp2_with fail
                refine (sinv_any A_q _ c_q _ q true hq w125 ((unhide l_q).arg o_q (by omega))).mono ?_
                rintro e w126 ⟨A_h, c_h, rfl, o_h, d⟩
                replace o_p := o_p.below d
                replace o_q := o_q.below d
                replace o_s := o_s.below d
                replace o_t := o_t.below d
                replace o_f := o_f.below d
                replace hb := below_after hb d
                clear d
                have l_f := hide (invR_lite hp)
                have l_h := hide (invR_lite hq)
                have l_m := hide (revR_lite hp)
                have l_n := hide (revR_lite hq)
                have H1 := hide (icntp_any A_f A_h _ c_f _ _ c_h _ (invR p) (invR q) w126 ((unhide l_f).arg o_f (by omega)) ((unhide l_h).arg o_h (by omega)))
                rw [num_inv hp hq, ← unhide HLV, ← unhide HNV] at H1
                clear o_f
                clear o_h
                go_wp2_with fail
                refine (unhide H1).mono ?_
                rintro e w127 ⟨rfl, d⟩
                replace o_p := o_p.below d
                replace o_q := o_q.below d
                replace o_s := o_s.below d
                replace o_t := o_t.below d
                replace hb := below_after hb d
                clear d
                clear H1
                go_wp2_with fail
                refine (srev_any A_p _ c_p _ p w127 ((unhide l_p).arg o_p (by omega))).mono ?_
                rintro e w128 ⟨A_m, c_m, rfl, o_m, d⟩
                replace o_p := o_p.below d
                replace o_q := o_q.below d
                replace o_s := o_s.below d
                replace o_t := o_t.below d
                replace hb := below_after hb d
                clear d
                go_wp2_with fail
                refine (srev_any A_q _ c_q _ q w128 ((unhide l_q).arg o_q (by omega))).mono ?_
                rintro e w129 ⟨A_n, c_n, rfl, o_n, d⟩
                replace o_p := o_p.below d
                replace o_q := o_q.below d
                replace o_s := o_s.below d
                replace o_t := o_t.below d
                replace o_m := o_m.below d
                replace hb := below_after hb d
                clear d
                have H1 := hide (icntp_any A_m A_n _ c_m _ _ c_n _ (revR p) (revR q) w129 ((unhide l_m).arg o_m (by omega)) ((unhide l_n).arg o_n (by omega)))
                rw [num_rev hp hq, ← unhide HLV, ← unhide HNV] at H1
                clear o_m
                clear o_n
                clear o_p
                clear o_q
                go_wp2_with fail
                refine (unhide H1).mono ?_
                rintro e w130 ⟨rfl, d⟩
                replace o_s := o_s.below d
                replace o_t := o_t.below d
                replace hb := below_after hb d
                clear d
                clear H1
                cases ok with
                | false =>
                  go_wp2
                  go_ret
                  exact ⟨rfl, hb⟩
                | true =>
                  have hok := unhide HOK
                  have l_t := hide (wplR_lite hok)
                  have HH := hide (wpl_has hok)
                  have HL := hide (wpl_low hok)
                  clear hok HOK
                  have H1 := hide (ihas_any A_s A_t _ c_s _ _ c_t _ s (wplR s j) w130 ((unhide l_s).arg o_s (by omega)) ((unhide l_t).arg o_t (by omega)))
                  rw [unhide HH] at H1
                  go_wp2_with fail
                  refine (unhide H1).mono ?_
                  rintro e w131 ⟨rfl, d⟩
                  replace o_s := o_s.below d
                  replace o_t := o_t.below d
                  replace hb := below_after hb d
                  clear d
                  go_wp2_with fail
                  refine (ilow_any A_s _ c_s _ s w131 ((unhide l_s).arg o_s (by omega))).mono ?_
                  rintro e w132 ⟨A_x, c_x, rfl, o_x, d⟩
                  replace o_s := o_s.below d
                  replace o_t := o_t.below d
                  replace hb := below_after hb d
                  clear d
                  go_wp2_with fail
                  refine (has_any A_x A_t _ c_x _ _ c_t _ (lowR s) (wplR s j) w132 o_x ((unhide l_t).arg o_t (by omega)) (fun z hz => ⟨by have := ((low_rows s).2.2 z hz).1; omega, ((low_rows s).2.2 z hz).2⟩) (by have := (low_rows s).1; omega) (unhide HL)).mono ?_
                  rintro e w133 ⟨rfl, d0⟩
                  have d := d0.below w132.heap.size
                  clear d0
                  replace o_s := o_s.below d
                  replace o_t := o_t.below d
                  replace o_x := o_x.below d
                  replace hb := below_after hb d
                  clear d
                  clear o_s
                  clear o_t
                  clear o_x
                  go_wp2
                  go_ret
                  exact ⟨rfl, hb⟩
  · rw [show decide (1048576 < n) = true from decide_eq_true (by omega)] at HG
    clear hr hn
    go_enter Try.func3, Try.ntmps3
    go_wp2_with fail
    refine (unhide HG).mono ?_
    rintro e w0 ⟨rfl, rfl⟩
    go_wp2
    go_ret
    exact ⟨rfl, Below.refl _ _⟩
theorem params_ok : ∀ t ∈ (#[22] : Array TypeId).toList, Try.prog.readableRec t = true ∧ t < Try.prog.types.size := by
  intro t ht
  simp only [List.mem_cons, List.not_mem_nil, or_false] at ht
  subst ht
  exact ⟨by kernel_rfl, of_decide_eq_true (by kernel_rfl)⟩

set_option maxRecDepth 100000 in
/-- WHAT THE WALK GIVES, FOR EVERY ARGUMENT. -/
theorem contract (H : Type) (enc : TypeId × Value → H) (W : World) (base : Nat) (args : Array Value) (ds gs : List (DataW H)) (before : List MemPlace)
    (hval : ∀ (j : Nat) t v, Try.f3.params[j]? = some t → args[j]? = some v → Value.okWide Try.prog W .any base t v)
    (hW : DataW.Whole enc Try.prog Try.f3.params.toList Rows.fnPatternsSpec.vars false W args.toList ds gs before) :
    Calls Try.prog 3 args W fun e W' => ∃ v, e = .returned v ∧ Rows.fnPatternsSpec.post enc Try.prog Try.f3 false true false false W args v W' := by
  have hW' := hW
  obtain ⟨p, q, hA0, hV, rfl, hfz, hnd⟩ := hW
  have hA : DataW.TrodAll enc Try.prog W 0 (fun _ => true) true Try.f3.params.toList args.toList ds p := hA0
  rw [Try.params3] at hA hval
  obtain ⟨v0, d0, rfl, rfl, h0⟩ := trodAll_one hA
  obtain ⟨rfl, rfl⟩ := trodVars_none hV
  obtain ⟨Abs, nbs, cbs, bs, rfl, hrbs, hnbs⟩ := open_bytes_reads Try.underlying22 Try.underlying5 cellsByte (hval 0 22 v0 rfl rfl) h0 (fun x hx => by simpa using hW'.lt x (by simp [hx]))
  refine (walk Abs nbs cbs bs W hrbs hnbs).mono fun e W' ⟨he, hb⟩ => ?_
  subst he
  exact ⟨_, rfl, law_end laidOut (by rw [Try.params3]; exact params_ok) Try.underlying4 rfl rfl hW' rfl hb⟩

set_option maxRecDepth 100000 in
theorem lifted (os : Os) (started : os.Started) (H : Type) (enc : TypeId × Value → H) :
    ReturnsInHanded {} Try.checked os 3 .any (Rows.fnPatternsSpec.pre6 enc Try.prog Try.f3 Rows.fnPatternsRow.domain false) (Rows.fnPatternsSpec.post enc Try.prog Try.f3 false true false false) := by
  refine returnsInHanded_of_change (C := Try.checked) own started (by kernel_rfl) Try.func3
    (ChangeSpec.witness6 (enc := enc) (C := Try.checked) false ⟨#[], #[.slice none 0 0], []⟩ 8 (by kernel_rfl) (by kernel_rfl) (by kernel_rfl) (by kernel_rfl)) ?_
  intro W base args ds gs before hval hW _ _
  exact contract H enc W base args ds gs before hval hW

theorem proved : Rows.FnPatternsSaid :=
  OpenClaim.holds_of_wide 3 Try.f3 rfl rfl rfl rfl rfl rfl rfl ⟨rfl, rfl, rfl, rfl, rfl⟩ rfl rfl rfl rfl rfl (by kernel_rfl) Try.func3 (by kernel_rfl)
    (of_decide_eq_true (by kernel_rfl)) (by unfold Func.isWrapper; first | (rw [if_pos (by decide +kernel)]; kernel_rfl) | (rw [if_neg (by decide +kernel)]; exact ⟨rfl, rfl⟩))
    (fun os started H enc _ => lifted os started H enc)
end Go.Proofs.Ytichenjbkclljaa.fnPatterns
