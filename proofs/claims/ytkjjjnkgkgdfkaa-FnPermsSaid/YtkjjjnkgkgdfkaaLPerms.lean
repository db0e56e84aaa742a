
/-
  THE LAW FnPerms: a permutation is parsed from its text, is undone by its inverse, is its own pattern. (Written by wip/tools/mkfnperms.py.)
-/
import Derived.Test.YtkjjjnkgkgdfkaaDrawP
import Derived.Test.YtkjjjnkgkgdfkaaDrawT
import Derived.Test.YtkjjjnkgkgdfkaaSames
import Derived.Test.YtkjjjnkgkgdfkaaPermI
import Derived.Test.YtkjjjnkgkgdfkaaInv
import Derived.Test.YtkjjjnkgkgdfkaaComp
import Derived.Test.YtkjjjnkgkgdfkaaPat
import Derived.Test.YtkjjjnkgkgdfkaaPPerm
import Derived.Test.YtkjjjnkgkgdfkaaText
import Derived.Test.YtkjjjnkgkgdfkaaIdent
import Derived.Test.YtkjjjnkgkgdfkaaFill
import Derived.Test.YtkjjjnkgkgdfkaaPermsOf
import Derived.Test.YtkjjjnkgkgdfkaaBef
import Derived.Test.YtkjjjnkgkgdfkaaBig
import Derived.Test.YtkjjjnkgkgdfkaaEnd
namespace Go.Proofs.Ytkjjjnkgkgdfkaa.fnPerms
set_option maxRecDepth 100000
open Go.RowKit Go.ChangeShapes Go.WideShapes Go.ChangeAt

theorem small_isP {p : List Int} (h : isP p = true) : Small p := isP_small h
theorem invR_lite (p : List Int) : Lite 9 (invR p) := by
  refine ⟨by have := invR_le p; omega, ?_⟩
  cases h : isP p with
  | true => rw [invR_inv h]; exact isP_small (invL_isP h)
  | false => rw [invR_no h]; exact small_nil
theorem comp_invR {p : List Int} (h : isP p = true) : compOK p (invR p) = true ∧ compR p (invR p) = upTo p.length := by
  rw [invR_inv h]
  exact comp_inv h

set_option maxRecDepth 100000 in
set_option maxHeartbeats 12800000 in
theorem walk (A : Option Addr) (n c : Nat) (bs : List UInt8) (w : World) (hr : Reads w w.heap.size A n (u8s bs)) (hn : n ≤ maxLen) :
    Calls Try.prog 3 #[.slice A n c] w fun e w' => e = .returned (.bool true) ∧ Below w.heap.size w w' := by
  unfold maxLen at hn
  have HG := hide (big_any A n c hn w)
  by_cases hbig : n ≤ 1048576
  · rw [show decide (1048576 < n) = false from decide_eq_false (by omega)] at HG
    go_enter Try.func3, Try.ntmps3
    go_wp2_with fail
    refine (unhide HG).mono ?_
    rintro e w0 ⟨rfl, rfl⟩
    clear HG
    have hb := Below.refl w.heap.size w
    go_wp2_with fail
    refine (dinv_any A n c w.heap.size bs w (hr.below hb) hbig hb.size).mono ?_
    rintro e w1 ⟨A_p, c_p, p, rfl, l_p, o_p, d⟩
    replace hb := below_after hb d
    clear d
    replace l_p := hide l_p
    obtain ⟨hp, hhp⟩ : ∃ hp, isP p = hp := ⟨_, rfl⟩
    have HHP := hide hhp
    go_wp2_with fail
    refine (iinv_any A_p _ c_p _ p hp hhp w1 ((unhide l_p).arg o_p (by omega))).mono ?_
    rintro e w2 ⟨A_i, c_i, rfl, o_i, d⟩
    replace o_p := o_p.below d
    replace hb := below_after hb d
    clear d
    go_wp2_with fail
    refine (sinv_any A_p _ c_p _ p hp hhp w2 ((unhide l_p).arg o_p (by omega))).mono ?_
    rintro e w3 ⟨A_i2, c_i2, rfl, o_i2, d⟩
    replace o_p := o_p.below d
    replace o_i := o_i.below d
    replace hb := below_after hb d
    clear d
    clear hhp
    go_wp2_with fail
    refine (dcomp_any A n c w.heap.size bs w3 (hr.below hb) hbig hb.size).mono ?_
    rintro e w4 ⟨A_x, c_x, x, A_y, c_y, y, rfl, l_x, l_y, o_x, o_y, d⟩
    replace o_p := o_p.below d
    replace o_i := o_i.below d
    replace o_i2 := o_i2.below d
    replace hb := below_after hb d
    clear d
    replace l_x := hide l_x
    replace l_y := hide l_y
    obtain ⟨f1, hf1⟩ : ∃ f, compOK x y = f := ⟨_, rfl⟩
    go_wp2_with fail
    refine (icomp_any A_x A_y _ c_x _ _ c_y _ x y f1 hf1 w4 ((unhide l_x).arg o_x (by omega)) ((unhide l_y).arg o_y (by omega))).mono ?_
    rintro e w5 ⟨A_d, c_d, rfl, o_d, d⟩
    replace o_p := o_p.below d
    replace o_i := o_i.below d
    replace o_i2 := o_i2.below d
    replace o_x := o_x.below d
    replace o_y := o_y.below d
    replace hb := below_after hb d
    clear d
    go_wp2_with fail
    refine (scomp_any A_x A_y _ c_x _ _ c_y _ x y f1 hf1 w5 ((unhide l_x).arg o_x (by omega)) ((unhide l_y).arg o_y (by omega))).mono ?_
    rintro e w6 ⟨A_d2, c_d2, rfl, o_d2, d⟩
    replace o_p := o_p.below d
    replace o_i := o_i.below d
    replace o_i2 := o_i2.below d
    replace o_x := o_x.below d
    replace o_y := o_y.below d
    replace o_d := o_d.below d
    replace hb := below_after hb d
    clear d
    clear hf1
    go_wp2_with fail
    refine (dpat_any A n c w.heap.size bs w6 (hr.below hb) hbig hb.size).mono ?_
    rintro e w7 ⟨A_l, c_l, l, rfl, l_l, o_l, d⟩
    replace o_p := o_p.below d
    replace o_i := o_i.below d
    replace o_i2 := o_i2.below d
    replace o_x := o_x.below d
    replace o_y := o_y.below d
    replace o_d := o_d.below d
    replace o_d2 := o_d2.below d
    replace hb := below_after hb d
    clear d
    replace l_l := hide l_l
    obtain ⟨f2, hf2⟩ : ∃ f, patOK l = f := ⟨_, rfl⟩
    go_wp2_with fail
    refine (ipat_any A_l _ c_l _ l f2 hf2 w7 ((unhide l_l).arg o_l (by omega))).mono ?_
    rintro e w8 ⟨A_e, c_e, rfl, o_e, d⟩
    replace o_p := o_p.below d
    replace o_i := o_i.below d
    replace o_i2 := o_i2.below d
    replace o_x := o_x.below d
    replace o_y := o_y.below d
    replace o_d := o_d.below d
    replace o_d2 := o_d2.below d
    replace o_l := o_l.below d
    replace hb := below_after hb d
    clear d
    go_wp2_with fail
    refine (spat_any A_l _ c_l _ l f2 hf2 w8 ((unhide l_l).arg o_l (by omega))).mono ?_
    rintro e w9 ⟨A_e2, c_e2, rfl, o_e2, d⟩
    replace o_p := o_p.below d
    replace o_i := o_i.below d
    replace o_i2 := o_i2.below d
    replace o_x := o_x.below d
    replace o_y := o_y.below d
    replace o_d := o_d.below d
    replace o_d2 := o_d2.below d
    replace o_l := o_l.below d
    replace o_e := o_e.below d
    replace hb := below_after hb d
    clear d
    clear hf2
    clear o_l
    go_wp2_with fail
    refine (dpp_any A n c w.heap.size bs w9 (hr.below hb) hbig hb.size).mono ?_
    rintro e w10 ⟨t, rfl, n_t, d⟩
    replace o_p := o_p.below d
    replace o_i := o_i.below d
    replace o_i2 := o_i2.below d
    replace o_x := o_x.below d
    replace o_y := o_y.below d
    replace o_d := o_d.below d
    replace o_d2 := o_d2.below d
    replace o_e := o_e.below d
    replace o_e2 := o_e2.below d
    replace hb := below_after hb d
    clear d
    obtain ⟨f3, hf3⟩ : ∃ f, ppOK t = f := ⟨_, rfl⟩
    go_wp2_with fail
    refine (ipp_any t (by omega) f3 hf3 w10).mono ?_
    rintro e w11 ⟨A_r, c_r, rfl, o_r, d⟩
    replace o_p := o_p.below d
    replace o_i := o_i.below d
    replace o_i2 := o_i2.below d
    replace o_x := o_x.below d
    replace o_y := o_y.below d
    replace o_d := o_d.below d
    replace o_d2 := o_d2.below d
    replace o_e := o_e.below d
    replace o_e2 := o_e2.below d
    replace hb := below_after hb d
    clear d
    go_wp2_with fail
    refine (spp_any t (by omega) f3 hf3 w11).mono ?_
    rintro e w12 ⟨A_r2, c_r2, rfl, o_r2, d⟩
    replace o_p := o_p.below d
    replace o_i := o_i.below d
    replace o_i2 := o_i2.below d
    replace o_x := o_x.below d
    replace o_y := o_y.below d
    replace o_d := o_d.below d
    replace o_d2 := o_d2.below d
    replace o_e := o_e.below d
    replace o_e2 := o_e2.below d
    replace o_r := o_r.below d
    replace hb := below_after hb d
    clear d
    clear hf3
    go_wp2_with fail
    refine (did_any A n c w.heap.size bs w12 (hr.below hb) hbig hb.size).mono ?_
    rintro e w13 ⟨m, rfl, n_m, d⟩
    replace o_p := o_p.below d
    replace o_i := o_i.below d
    replace o_i2 := o_i2.below d
    replace o_x := o_x.below d
    replace o_y := o_y.below d
    replace o_d := o_d.below d
    replace o_d2 := o_d2.below d
    replace o_e := o_e.below d
    replace o_e2 := o_e2.below d
    replace o_r := o_r.below d
    replace o_r2 := o_r2.below d
    replace hb := below_after hb d
    clear d
    go_wp2_with fail
    refine (dpo_any A n c w.heap.size bs w13 (hr.below hb) hbig hb.size).mono ?_
    rintro e w14 ⟨k, rfl, n_k, d⟩
    replace o_p := o_p.below d
    replace o_i := o_i.below d
    replace o_i2 := o_i2.below d
    replace o_x := o_x.below d
    replace o_y := o_y.below d
    replace o_d := o_d.below d
    replace o_d2 := o_d2.below d
    replace o_e := o_e.below d
    replace o_e2 := o_e2.below d
    replace o_r := o_r.below d
    replace o_r2 := o_r2.below d
    replace hb := below_after hb d
    clear d
    by_cases h5 : (5 : Int) < k
    · have h5' : (5 : Int) < k := h5
      go_wp2_with fail
      refine (samei_any _ _ _ _ _ _ _ _ _ _ o_i.reads o_i2.reads (by have := invR_le p; omega)).mono ?_
      rintro e w15 ⟨rfl, d0⟩
      have d := d0.below w14.heap.size
      clear d0
      replace o_p := o_p.below d
      replace o_i := o_i.below d
      replace o_i2 := o_i2.below d
      replace o_x := o_x.below d
      replace o_y := o_y.below d
      replace o_d := o_d.below d
      replace o_d2 := o_d2.below d
      replace o_e := o_e.below d
      replace o_e2 := o_e2.below d
      replace o_r := o_r.below d
      replace o_r2 := o_r2.below d
      replace hb := below_after hb d
      clear d
      clear o_i2
      go_wp2_with fail
      refine (samei_any _ _ _ _ _ _ _ _ _ _ o_d.reads o_d2.reads (by have := compR_le x y; omega)).mono ?_
      rintro e w16 ⟨rfl, d0⟩
      have d := d0.below w15.heap.size
      clear d0
      replace o_p := o_p.below d
      replace o_i := o_i.below d
      replace o_x := o_x.below d
      replace o_y := o_y.below d
      replace o_d := o_d.below d
      replace o_d2 := o_d2.below d
      replace o_e := o_e.below d
      replace o_e2 := o_e2.below d
      replace o_r := o_r.below d
      replace o_r2 := o_r2.below d
      replace hb := below_after hb d
      clear d
      clear o_d
      clear o_d2
      go_wp2_with fail
      refine (samei_any _ _ _ _ _ _ _ _ _ _ o_e.reads o_e2.reads (by have := patR_le l; omega)).mono ?_
      rintro e w17 ⟨rfl, d0⟩
      have d := d0.below w16.heap.size
      clear d0
      replace o_p := o_p.below d
      replace o_i := o_i.below d
      replace o_x := o_x.below d
      replace o_y := o_y.below d
      replace o_e := o_e.below d
      replace o_e2 := o_e2.below d
      replace o_r := o_r.below d
      replace o_r2 := o_r2.below d
      replace hb := below_after hb d
      clear d
      clear o_e
      clear o_e2
      go_wp2_with fail
      refine (samei_any _ _ _ _ _ _ _ _ _ _ o_r.reads o_r2.reads (by have := ppR_le t; omega)).mono ?_
      rintro e w18 ⟨rfl, d0⟩
      have d := d0.below w17.heap.size
      clear d0
      replace o_p := o_p.below d
      replace o_i := o_i.below d
      replace o_x := o_x.below d
      replace o_y := o_y.below d
      replace o_r := o_r.below d
      replace o_r2 := o_r2.below d
      replace hb := below_after hb d
      clear d
      clear o_r
      clear o_r2
      go_wp2_with fail
      refine (iid_any m (by omega) w18).mono ?_
      rintro e w19 ⟨A_q, c_q, rfl, o_q, d⟩
      replace o_p := o_p.below d
      replace o_i := o_i.below d
      replace o_x := o_x.below d
      replace o_y := o_y.below d
      replace hb := below_after hb d
      clear d
      go_wp2_with fail
      refine (sid_any m (by omega) w19).mono ?_
      rintro e w20 ⟨A_q2, c_q2, rfl, o_q2, d⟩
      replace o_p := o_p.below d
      replace o_i := o_i.below d
      replace o_x := o_x.below d
      replace o_y := o_y.below d
      replace o_q := o_q.below d
      replace hb := below_after hb d
      clear d
      go_wp2_with fail
      refine (samei_any _ _ _ _ _ _ _ _ _ _ o_q.reads o_q2.reads (by have := idR_le m; omega)).mono ?_
      rintro e w21 ⟨rfl, d0⟩
      have d := d0.below w20.heap.size
      clear d0
      replace o_p := o_p.below d
      replace o_i := o_i.below d
      replace o_x := o_x.below d
      replace o_y := o_y.below d
      replace o_q := o_q.below d
      replace o_q2 := o_q2.below d
      replace hb := below_after hb d
      clear d
      clear o_q
      clear o_q2
      go_wp2_with fail
      refine (iperms_any 5 (by omega) w21).mono ?_
      rintro e w22 ⟨A_s, c_s, rfl, o_s, d⟩
      replace o_p := o_p.below d
      replace o_i := o_i.below d
      replace o_x := o_x.below d
      replace o_y := o_y.below d
      replace hb := below_after hb d
      clear d
      go_wp2_with fail
      refine (sperms_any 5 (by omega) w22).mono ?_
      rintro e w23 ⟨A_s2, c_s2, rfl, o_s2, d⟩
      replace o_p := o_p.below d
      replace o_i := o_i.below d
      replace o_x := o_x.below d
      replace o_y := o_y.below d
      replace o_s := o_s.below d
      replace hb := below_after hb d
      clear d
      go_wp2_with fail
      refine (samess_any _ _ _ _ _ _ _ _ _ _ o_s o_s2 (by have := (permsR_small 5).1; omega) (by have := (permsR_small 5).2; omega)).mono ?_
      rintro e w24 ⟨rfl, d0⟩
      have d := d0.below w23.heap.size
      clear d0
      replace o_p := o_p.below d
      replace o_i := o_i.below d
      replace o_x := o_x.below d
      replace o_y := o_y.below d
      replace o_s := o_s.below d
      replace o_s2 := o_s2.below d
      replace hb := below_after hb d
      clear d
      clear o_s
      clear o_s2
      go_wp2_with fail
      refine (ibef_any A_x A_y _ c_x _ _ c_y _ x y w24 ((unhide l_x).arg o_x (by omega)) ((unhide l_y).arg o_y (by omega))).mono ?_
      rintro e w25 ⟨rfl, d⟩
      replace o_p := o_p.below d
      replace o_i := o_i.below d
      replace o_x := o_x.below d
      replace o_y := o_y.below d
      replace hb := below_after hb d
      clear d
      go_wp2_with fail
      refine (sbef_any A_x A_y _ c_x _ _ c_y _ x y w25 ((unhide l_x).arg o_x (by omega)) ((unhide l_y).arg o_y (by omega))).mono ?_
      rintro e w26 ⟨rfl, d⟩
      replace o_p := o_p.below d
      replace o_i := o_i.below d
      replace o_x := o_x.below d
      replace o_y := o_y.below d
      replace hb := below_after hb d
      clear d
      clear o_x
      clear o_y
      go_wp2_with fail
      refine (iisperm_any A_p _ c_p _ p hp (unhide HHP) w26 ((unhide l_p).arg o_p (by omega)).reads ((unhide l_p).arg o_p (by omega)).under ((unhide l_p).arg o_p (by omega)).le ((unhide l_p).arg o_p (by omega)).small).mono ?_
      rintro e w27 ⟨rfl, d⟩
      replace o_p := o_p.below d
      replace o_i := o_i.below d
      replace hb := below_after hb d
      clear d
      go_wp2_with fail
      refine (sisperm_any A_p _ c_p _ p hp (unhide HHP) w27 ((unhide l_p).arg o_p (by omega)).reads ((unhide l_p).arg o_p (by omega)).le ((unhide l_p).arg o_p (by omega)).cap).mono ?_
      rintro e w28 ⟨rfl, d0⟩
      have d := d0.below w27.heap.size
      clear d0
      replace o_p := o_p.below d
      replace o_i := o_i.below d
      replace hb := below_after hb d
      clear d
      go_wp2_with fail
      refine (itext_any A_p _ c_p _ p w28 ((unhide l_p).arg o_p (by omega))).mono ?_
      rintro e w29 ⟨rfl, d⟩
      replace o_p := o_p.below d
      replace o_i := o_i.below d
      replace hb := below_after hb d
      clear d
      go_wp2_with fail
      refine (ipp_any (ptext p) (by have := ptext_size p; omega) hp ((pp_text p).1.trans (unhide HHP)) w29).mono ?_
      rintro e w30 ⟨A_z, c_z, rfl, o_z, d⟩
      replace o_p := o_p.below d
      replace o_i := o_i.below d
      replace hb := below_after hb d
      clear d
      go_wp2_with fail
      refine (stext_any A_p _ c_p _ p w30 ((unhide l_p).arg o_p (by omega))).mono ?_
      rintro e w31 ⟨rfl, d⟩
      replace o_p := o_p.below d
      replace o_i := o_i.below d
      replace o_z := o_z.below d
      replace hb := below_after hb d
      clear d
      go_wp2_with fail
      refine (sisperm_any A_p _ c_p _ p hp (unhide HHP) w31 ((unhide l_p).arg o_p (by omega)).reads ((unhide l_p).arg o_p (by omega)).le ((unhide l_p).arg o_p (by omega)).cap).mono ?_
      rintro e w32 ⟨rfl, d0⟩
      have d := d0.below w31.heap.size
      clear d0
      replace o_p := o_p.below d
      replace o_i := o_i.below d
      replace o_z := o_z.below d
      replace hb := below_after hb d
      clear d
      cases hp with
      | false =>
        go_wp2
        go_ret
        exact ⟨rfl, hb⟩
      | true =>
        have hp8 := isP_le (unhide HHP)
        rw [(pp_text p).2 (unhide HHP)] at o_z ⊢
        go_wp2_with fail
        refine (samei_any _ _ _ _ _ _ _ _ _ _ o_z.reads o_p.reads (by omega)).mono ?_
        rintro e w33 ⟨rfl, d0⟩
        have d := d0.below w32.heap.size
        clear d0
        replace o_p := o_p.below d
        replace o_i := o_i.below d
        replace o_z := o_z.below d
        replace hb := below_after hb d
        clear d
        clear o_z
        have l_i := hide (invR_lite p)
        have Ku := icomp_any A_p A_i _ c_p _ _ c_i _ p (invR p) true (comp_invR (unhide HHP)).1 w33 ((unhide l_p).arg o_p (by omega)) ((unhide l_i).arg o_i (by omega))
        rw [(comp_invR (unhide HHP)).2] at Ku
        have HKu := hide Ku
        clear Ku
        go_wp2_with fail
        refine (unhide HKu).mono ?_
        rintro e w34 ⟨A_u, c_u, rfl, o_u, d⟩
        replace o_p := o_p.below d
        replace o_i := o_i.below d
        replace hb := below_after hb d
        clear d
        clear HKu
        have Kv := ipat_any A_p _ c_p _ p true (pat_self (unhide HHP)).1 w34 ((unhide l_p).arg o_p (by omega))
        rw [(pat_self (unhide HHP)).2] at Kv
        have HKv := hide Kv
        clear Kv
        go_wp2_with fail
        refine (unhide HKv).mono ?_
        rintro e w35 ⟨A_v, c_v, rfl, o_v, d⟩
        replace o_p := o_p.below d
        replace o_i := o_i.below d
        replace o_u := o_u.below d
        replace hb := below_after hb d
        clear d
        clear HKv
        go_wp2_with fail
        refine (straight_any _ _ _ _ _ _ o_u.reads (by omega)).mono ?_
        rintro e w36 ⟨rfl, d0⟩
        have d := d0.below w35.heap.size
        clear d0
        replace o_p := o_p.below d
        replace o_i := o_i.below d
        replace o_u := o_u.below d
        replace o_v := o_v.below d
        replace hb := below_after hb d
        clear d
        go_wp2_with fail
        refine (samei_any _ _ _ _ _ _ _ _ _ _ o_v.reads o_p.reads (by omega)).mono ?_
        rintro e w37 ⟨rfl, d0⟩
        have d := d0.below w36.heap.size
        clear d0
        replace o_p := o_p.below d
        replace o_i := o_i.below d
        replace o_u := o_u.below d
        replace o_v := o_v.below d
        replace hb := below_after hb d
        clear d
        go_wp2
        go_ret
        exact ⟨rfl, hb⟩
    · have h5' : ¬ (5 : Int) < k := h5
      go_wp2_with fail
      refine (samei_any _ _ _ _ _ _ _ _ _ _ o_i.reads o_i2.reads (by have := invR_le p; omega)).mono ?_
      rintro e w15 ⟨rfl, d0⟩
      have d := d0.below w14.heap.size
      clear d0
      replace o_p := o_p.below d
      replace o_i := o_i.below d
      replace o_i2 := o_i2.below d
      replace o_x := o_x.below d
      replace o_y := o_y.below d
      replace o_d := o_d.below d
      replace o_d2 := o_d2.below d
      replace o_e := o_e.below d
      replace o_e2 := o_e2.below d
      replace o_r := o_r.below d
      replace o_r2 := o_r2.below d
      replace hb := below_after hb d
      clear d
      clear o_i2
      go_wp2_with fail
      refine (samei_any _ _ _ _ _ _ _ _ _ _ o_d.reads o_d2.reads (by have := compR_le x y; omega)).mono ?_
      rintro e w16 ⟨rfl, d0⟩
      have d := d0.below w15.heap.size
      clear d0
      replace o_p := o_p.below d
      replace o_i := o_i.below d
      replace o_x := o_x.below d
      replace o_y := o_y.below d
      replace o_d := o_d.below d
      replace o_d2 := o_d2.below d
      replace o_e := o_e.below d
      replace o_e2 := o_e2.below d
      replace o_r := o_r.below d
      replace o_r2 := o_r2.below d
      replace hb := below_after hb d
      clear d
      clear o_d
      clear o_d2
      go_wp2_with fail
      refine (samei_any _ _ _ _ _ _ _ _ _ _ o_e.reads o_e2.reads (by have := patR_le l; omega)).mono ?_
      rintro e w17 ⟨rfl, d0⟩
      have d := d0.below w16.heap.size
      clear d0
      replace o_p := o_p.below d
      replace o_i := o_i.below d
      replace o_x := o_x.below d
      replace o_y := o_y.below d
      replace o_e := o_e.below d
      replace o_e2 := o_e2.below d
      replace o_r := o_r.below d
      replace o_r2 := o_r2.below d
      replace hb := below_after hb d
      clear d
      clear o_e
      clear o_e2
      go_wp2_with fail
      refine (samei_any _ _ _ _ _ _ _ _ _ _ o_r.reads o_r2.reads (by have := ppR_le t; omega)).mono ?_
      rintro e w18 ⟨rfl, d0⟩
      have d := d0.below w17.heap.size
      clear d0
      replace o_p := o_p.below d
      replace o_i := o_i.below d
      replace o_x := o_x.below d
      replace o_y := o_y.below d
      replace o_r := o_r.below d
      replace o_r2 := o_r2.below d
      replace hb := below_after hb d
      clear d
      clear o_r
      clear o_r2
      go_wp2_with fail
      refine (iid_any m (by omega) w18).mono ?_
      rintro e w19 ⟨A_q, c_q, rfl, o_q, d⟩
      replace o_p := o_p.below d
      replace o_i := o_i.below d
      replace o_x := o_x.below d
      replace o_y := o_y.below d
      replace hb := below_after hb d
      clear d
      go_wp2_with fail
      refine (sid_any m (by omega) w19).mono ?_
      rintro e w20 ⟨A_q2, c_q2, rfl, o_q2, d⟩
      replace o_p := o_p.below d
      replace o_i := o_i.below d
      replace o_x := o_x.below d
      replace o_y := o_y.below d
      replace o_q := o_q.below d
      replace hb := below_after hb d
      clear d
      go_wp2_with fail
      refine (samei_any _ _ _ _ _ _ _ _ _ _ o_q.reads o_q2.reads (by have := idR_le m; omega)).mono ?_
      rintro e w21 ⟨rfl, d0⟩
      have d := d0.below w20.heap.size
      clear d0
      replace o_p := o_p.below d
      replace o_i := o_i.below d
      replace o_x := o_x.below d
      replace o_y := o_y.below d
      replace o_q := o_q.below d
      replace o_q2 := o_q2.below d
      replace hb := below_after hb d
      clear d
      clear o_q
      clear o_q2
      go_wp2_with fail
      refine (iperms_any k (by omega) w21).mono ?_
      rintro e w22 ⟨A_s, c_s, rfl, o_s, d⟩
      replace o_p := o_p.below d
      replace o_i := o_i.below d
      replace o_x := o_x.below d
      replace o_y := o_y.below d
      replace hb := below_after hb d
      clear d
      go_wp2_with fail
      refine (sperms_any k (by omega) w22).mono ?_
      rintro e w23 ⟨A_s2, c_s2, rfl, o_s2, d⟩
      replace o_p := o_p.below d
      replace o_i := o_i.below d
      replace o_x := o_x.below d
      replace o_y := o_y.below d
      replace o_s := o_s.below d
      replace hb := below_after hb d
      clear d
      go_wp2_with fail
      refine (samess_any _ _ _ _ _ _ _ _ _ _ o_s o_s2 (by have := (permsR_small k).1; omega) (by have := (permsR_small k).2; omega)).mono ?_
      rintro e w24 ⟨rfl, d0⟩
      have d := d0.below w23.heap.size
      clear d0
      replace o_p := o_p.below d
      replace o_i := o_i.below d
      replace o_x := o_x.below d
      replace o_y := o_y.below d
      replace o_s := o_s.below d
      replace o_s2 := o_s2.below d
      replace hb := below_after hb d
      clear d
      clear o_s
      clear o_s2
      go_wp2_with fail
      refine (ibef_any A_x A_y _ c_x _ _ c_y _ x y w24 ((unhide l_x).arg o_x (by omega)) ((unhide l_y).arg o_y (by omega))).mono ?_
      rintro e w25 ⟨rfl, d⟩
      replace o_p := o_p.below d
      replace o_i := o_i.below d
      replace o_x := o_x.below d
      replace o_y := o_y.below d
      replace hb := below_after hb d
      clear d
      go_wp2_with fail
      refine (sbef_any A_x A_y _ c_x _ _ c_y _ x y w25 ((unhide l_x).arg o_x (by omega)) ((unhide l_y).arg o_y (by omega))).mono ?_
      rintro e w26 ⟨rfl, d⟩
      replace o_p := o_p.below d
      replace o_i := o_i.below d
      replace o_x := o_x.below d
      replace o_y := o_y.below d
      replace hb := below_after hb d
      clear d
      clear o_x
      clear o_y
      go_wp2_with fail
      refine (iisperm_any A_p _ c_p _ p hp (unhide HHP) w26 ((unhide l_p).arg o_p (by omega)).reads ((unhide l_p).arg o_p (by omega)).under ((unhide l_p).arg o_p (by omega)).le ((unhide l_p).arg o_p (by omega)).small).mono ?_
      rintro e w27 ⟨rfl, d⟩
      replace o_p := o_p.below d
      replace o_i := o_i.below d
      replace hb := below_after hb d
      clear d
      go_wp2_with fail
      refine (sisperm_any A_p _ c_p _ p hp (unhide HHP) w27 ((unhide l_p).arg o_p (by omega)).reads ((unhide l_p).arg o_p (by omega)).le ((unhide l_p).arg o_p (by omega)).cap).mono ?_
      rintro e w28 ⟨rfl, d0⟩
      have d := d0.below w27.heap.size
      clear d0
      replace o_p := o_p.below d
      replace o_i := o_i.below d
      replace hb := below_after hb d
      clear d
      go_wp2_with fail
      refine (itext_any A_p _ c_p _ p w28 ((unhide l_p).arg o_p (by omega))).mono ?_
      rintro e w29 ⟨rfl, d⟩
      replace o_p := o_p.below d
      replace o_i := o_i.below d
      replace hb := below_after hb d
      clear d
      go_wp2_with fail
      refine (ipp_any (ptext p) (by have := ptext_size p; omega) hp ((pp_text p).1.trans (unhide HHP)) w29).mono ?_
      rintro e w30 ⟨A_z, c_z, rfl, o_z, d⟩
      replace o_p := o_p.below d
      replace o_i := o_i.below d
      replace hb := below_after hb d
      clear d
      go_wp2_with fail
      refine (stext_any A_p _ c_p _ p w30 ((unhide l_p).arg o_p (by omega))).mono ?_
      rintro e w31 ⟨rfl, d⟩
      replace o_p := o_p.below d
      replace o_i := o_i.below d
      replace o_z := o_z.below d
      replace hb := below_after hb d
      clear d
      go_wp2_with fail
      refine (sisperm_any A_p _ c_p _ p hp (unhide HHP) w31 ((unhide l_p).arg o_p (by omega)).reads ((unhide l_p).arg o_p (by omega)).le ((unhide l_p).arg o_p (by omega)).cap).mono ?_
      rintro e w32 ⟨rfl, d0⟩
      have d := d0.below w31.heap.size
      clear d0
      replace o_p := o_p.below d
      replace o_i := o_i.below d
      replace o_z := o_z.below d
      replace hb := below_after hb d
      clear d
      cases hp with
      | false =>
        go_wp2
        go_ret
        exact ⟨rfl, hb⟩
      | true =>
        have hp8 := isP_le (unhide HHP)
        rw [(pp_text p).2 (unhide HHP)] at o_z ⊢
        go_wp2_with fail
        refine (samei_any _ _ _ _ _ _ _ _ _ _ o_z.reads o_p.reads (by omega)).mono ?_
        rintro e w33 ⟨rfl, d0⟩
        have d := d0.below w32.heap.size
        clear d0
        replace o_p := o_p.below d
        replace o_i := o_i.below d
        replace o_z := o_z.below d
        replace hb := below_after hb d
        clear d
        clear o_z
        have l_i := hide (invR_lite p)
        have Ku := icomp_any A_p A_i _ c_p _ _ c_i _ p (invR p) true (comp_invR (unhide HHP)).1 w33 ((unhide l_p).arg o_p (by omega)) ((unhide l_i).arg o_i (by omega))
        rw [(comp_invR (unhide HHP)).2] at Ku
        have HKu := hide Ku
        clear Ku
        go_wp2_with fail
        refine (unhide HKu).mono ?_
        rintro e w34 ⟨A_u, c_u, rfl, o_u, d⟩
        replace o_p := o_p.below d
        replace o_i := o_i.below d
        replace hb := below_after hb d
        clear d
        clear HKu
        have Kv := ipat_any A_p _ c_p _ p true (pat_self (unhide HHP)).1 w34 ((unhide l_p).arg o_p (by omega))
        rw [(pat_self (unhide HHP)).2] at Kv
        have HKv := hide Kv
        clear Kv
        go_wp2_with fail
        refine (unhide HKv).mono ?_
        rintro e w35 ⟨A_v, c_v, rfl, o_v, d⟩
        replace o_p := o_p.below d
        replace o_i := o_i.below d
        replace o_u := o_u.below d
        replace hb := below_after hb d
        clear d
        clear HKv
        go_wp2_with fail
        refine (straight_any _ _ _ _ _ _ o_u.reads (by omega)).mono ?_
        rintro e w36 ⟨rfl, d0⟩
        have d := d0.below w35.heap.size
        clear d0
        replace o_p := o_p.below d
        replace o_i := o_i.below d
        replace o_u := o_u.below d
        replace o_v := o_v.below d
        replace hb := below_after hb d
        clear d
        go_wp2_with fail
        refine (samei_any _ _ _ _ _ _ _ _ _ _ o_v.reads o_p.reads (by omega)).mono ?_
        rintro e w37 ⟨rfl, d0⟩
        have d := d0.below w36.heap.size
        clear d0
        replace o_p := o_p.below d
        replace o_i := o_i.below d
        replace o_u := o_u.below d
        replace o_v := o_v.below d
        replace hb := below_after hb d
        clear d
        go_wp2
        go_ret
        exact ⟨rfl, hb⟩
  · rw [show decide (1048576 < n) = true from decide_eq_true (by omega)] at HG
    clear hr hn
    go_enter Try.func3, Try.ntmps3
    go_wp2_with fail
    refine (unhide HG).mono ?_
    rintro e w0 ⟨rfl, rfl⟩
    go_wp2
    go_ret
    exact ⟨rfl, Below.refl _ _⟩
theorem params_ok : ∀ t ∈ (#[22] : Array TypeId).toList, Try.prog.readableRec t = true ∧ t < Try.prog.types.size := by
  intro t ht
  simp only [List.mem_cons, List.not_mem_nil, or_false] at ht
  subst ht
  exact ⟨by kernel_rfl, of_decide_eq_true (by kernel_rfl)⟩

set_option maxRecDepth 100000 in
/-- WHAT THE WALK GIVES, FOR EVERY ARGUMENT. -/
theorem contract (H : Type) (enc : TypeId × Value → H) (W : World) (base : Nat) (args : Array Value) (ds gs : List (DataW H)) (before : List MemPlace)
    (hval : ∀ (j : Nat) t v, Try.f3.params[j]? = some t → args[j]? = some v → Value.okWide Try.prog W .any base t v)
    (hW : DataW.Whole enc Try.prog Try.f3.params.toList Rows.fnPermsSpec.vars false W args.toList ds gs before) :
    Calls Try.prog 3 args W fun e W' => ∃ v, e = .returned v ∧ Rows.fnPermsSpec.post enc Try.prog Try.f3 false true false false W args v W' := by
  have hW' := hW
  obtain ⟨p, q, hA0, hV, rfl, hfz, hnd⟩ := hW
  have hA : DataW.TrodAll enc Try.prog W 0 (fun _ => true) true Try.f3.params.toList args.toList ds p := hA0
  rw [Try.params3] at hA hval
  obtain ⟨v0, d0, rfl, rfl, h0⟩ := trodAll_one hA
  obtain ⟨rfl, rfl⟩ := trodVars_none hV
  obtain ⟨Abs, nbs, cbs, bs, rfl, hrbs, hnbs⟩ := open_bytes_reads Try.underlying22 Try.underlying5 cellsByte (hval 0 22 v0 rfl rfl) h0 (fun x hx => by simpa using hW'.lt x (by simp [hx]))
  refine (walk Abs nbs cbs bs W hrbs hnbs).mono fun e W' ⟨he, hb⟩ => ?_
  subst he
  exact ⟨_, rfl, law_end laidOut (by rw [Try.params3]; exact params_ok) Try.underlying4 rfl rfl hW' rfl hb⟩

set_option maxRecDepth 100000 in
theorem lifted (os : Os) (started : os.Started) (H : Type) (enc : TypeId × Value → H) :
    ReturnsInHanded {} Try.checked os 3 .any (Rows.fnPermsSpec.pre6 enc Try.prog Try.f3 Rows.fnPermsRow.domain false) (Rows.fnPermsSpec.post enc Try.prog Try.f3 false true false false) := by
  refine returnsInHanded_of_change (C := Try.checked) own started (by kernel_rfl) Try.func3
    (ChangeSpec.witness6 (enc := enc) (C := Try.checked) false ⟨#[], #[.slice none 0 0], []⟩ 8 (by kernel_rfl) (by kernel_rfl) (by kernel_rfl) (by kernel_rfl)) ?_
  intro W base args ds gs before hval hW _ _
  exact contract H enc W base args ds gs before hval hW

theorem proved : Rows.FnPermsSaid :=
  OpenClaim.holds_of_wide 3 Try.f3 rfl rfl rfl rfl rfl rfl rfl ⟨rfl, rfl, rfl, rfl, rfl⟩ rfl rfl rfl rfl rfl (by kernel_rfl) Try.func3 (by kernel_rfl)
    (of_decide_eq_true (by kernel_rfl)) (by unfold Func.isWrapper; first | (rw [if_pos (by decide +kernel)]; kernel_rfl) | (rw [if_neg (by decide +kernel)]; exact ⟨rfl, rfl⟩))
    (fun os started H enc _ => lifted os started H enc)
end Go.Proofs.Ytkjjjnkgkgdfkaa.fnPerms
