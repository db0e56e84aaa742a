/-
  THE LAW FnSums: parts of a sum are joined to it again. (Written by wip/tools/mkfnsums.py.)
-/
import Derived.Test.YtoiipedomgefaaaB6
import Derived.Test.YtoiipedomgefaaaB4








namespace Go.Proofs.Ytoiipedomgefaaa.fnSums
set_option maxRecDepth 100000
open Go.RowKit Go.ChangeShapes Go.WideShapes Go.ChangeAt

theorem joinR_lite (s : Bool) (x y : List Int) : Lite 9 (joinR s x y) := by
  rw [← joins_two]
  exact joinsR_lite s _

set_option maxRecDepth 100000 in
set_option maxHeartbeats 6400000 in
theorem walk (A : Option Addr) (n c : Nat) (bs : List UInt8) (w : World) (hr : Reads w w.heap.size A n (u8s bs)) (hn : n ≤ maxLen) :
    Calls Try.prog 3 #[.slice A n c] w fun e w' => e = .returned (.bool true) ∧ Below w.heap.size w w' := by
  unfold maxLen at hn
  have HG := hide (big_any A n c hn w)
  by_cases hbig : n ≤ 1048576
  · rw [show decide (1048576 < n) = false from decide_eq_false (by omega)] at HG
    go_enter Try.func3, Try.ntmps3
    go_wp2_with fail
    refine (unhide HG).mono ?_
    rintro e w0 ⟨rfl, rfl⟩
    clear HG
    have hb := Below.refl w.heap.size w
    go_wp2_with fail
    refine (dparts_any A n c w.heap.size bs w (hr.below hb) hbig hb.size).mono ?_
    rintro e w1 ⟨A_p, c_p, p, rfl, l_p, o_p, d⟩
    replace hb := below_after hb d
    clear d
    replace l_p := hide l_p
    go_wp2_with fail
    refine (iparts_any A_p _ c_p _ p w1 ((unhide l_p).arg o_p (by omega))).mono ?_
    rintro e w2 ⟨A_a, c_a, rfl, o_a, d⟩
    replace o_p := o_p.below d
    replace hb := below_after hb d
    clear d
    go_wp2_with fail
    refine (iskews_any A_p _ c_p _ p w2 ((unhide l_p).arg o_p (by omega))).mono ?_
    rintro e w3 ⟨A_b, c_b, rfl, o_b, d⟩
    replace o_p := o_p.below d
    replace o_a := o_a.below d
    replace hb := below_after hb d
    clear d
    go_wp2_with fail
    refine (dsum_any A n c w.heap.size bs w3 (hr.below hb) hbig hb.size).mono ?_
    rintro e w4 ⟨A_x, c_x, x, A_y, c_y, y, rfl, l_x, l_y, o_x, o_y, d⟩
    replace o_p := o_p.below d
    replace o_a := o_a.below d
    replace o_b := o_b.below d
    replace hb := below_after hb d
    clear d
    replace l_x := hide l_x
    replace l_y := hide l_y
    go_wp2_with fail
    refine (isum_any A_x A_y _ c_x _ _ c_y _ x y w4 ((unhide l_x).arg o_x (by omega)) ((unhide l_y).arg o_y (by omega))).mono ?_
    rintro e w5 ⟨A_s, c_s, rfl, o_s, d⟩
    replace o_p := o_p.below d
    replace o_a := o_a.below d
    replace o_b := o_b.below d
    replace o_x := o_x.below d
    replace o_y := o_y.below d
    replace hb := below_after hb d
    clear d
    go_wp2_with fail
    refine (ssum_any A_x A_y _ c_x _ _ c_y _ x y w5 ((unhide l_x).arg o_x (by omega)) ((unhide l_y).arg o_y (by omega))).mono ?_
    rintro e w6 ⟨A_t, c_t, rfl, o_t, d⟩
    replace o_p := o_p.below d
    replace o_a := o_a.below d
    replace o_b := o_b.below d
    replace o_x := o_x.below d
    replace o_y := o_y.below d
    replace o_s := o_s.below d
    replace hb := below_after hb d
    clear d
    go_wp2_with fail
    refine (iskew_any A_x A_y _ c_x _ _ c_y _ x y w6 ((unhide l_x).arg o_x (by omega)) ((unhide l_y).arg o_y (by omega))).mono ?_
    rintro e w7 ⟨A_u, c_u, rfl, o_u, d⟩
    replace o_p := o_p.below d
    replace o_a := o_a.below d
    replace o_b := o_b.below d
    replace o_x := o_x.below d
    replace o_y := o_y.below d
    replace o_s := o_s.below d
    replace o_t := o_t.below d
    replace hb := below_after hb d
    clear d
    go_wp2_with fail
    refine (sskew_any A_x A_y _ c_x _ _ c_y _ x y w7 ((unhide l_x).arg o_x (by omega)) ((unhide l_y).arg o_y (by omega))).mono ?_
    rintro e w8 ⟨A_v, c_v, rfl, o_v, d⟩
    replace o_p := o_p.below d
    replace o_a := o_a.below d
    replace o_b := o_b.below d
    replace o_x := o_x.below d
    replace o_y := o_y.below d
    replace o_s := o_s.below d
    replace o_t := o_t.below d
    replace o_u := o_u.below d
    replace hb := below_after hb d
    clear d
    go_wp2_with fail
    refine (djoin_any A n c w.heap.size bs w8 (hr.below hb) hbig hb.size).mono ?_
    rintro e w9 ⟨A_l, c_l, l, sk, rfl, n_l, l_l, o_l, d⟩
    replace o_p := o_p.below d
    replace o_a := o_a.below d
    replace o_b := o_b.below d
    replace o_x := o_x.below d
    replace o_y := o_y.below d
    replace o_s := o_s.below d
    replace o_t := o_t.below d
    replace o_u := o_u.below d
    replace o_v := o_v.below d
    replace hb := below_after hb d
    clear d
    replace l_l := hide l_l
    have m_l : l.length ≤ 1048576 := by omega
    have q_l := hide (fun z (hz : z ∈ l) => (show z.length ≤ 1048576 ∧ Small z from ⟨by have := (unhide l_l z hz).1; omega, (unhide l_l z hz).2⟩))
    go_wp2_with fail
    refine (ijoins_any A_l _ c_l _ sk l w9 o_l m_l (unhide q_l)).mono ?_
    rintro e w10 ⟨A_j, c_j, rfl, o_j, d⟩
    replace o_p := o_p.below d
    replace o_a := o_a.below d
    replace o_b := o_b.below d
    replace o_x := o_x.below d
    replace o_y := o_y.below d
    replace o_s := o_s.below d
    replace o_t := o_t.below d
    replace o_u := o_u.below d
    replace o_v := o_v.below d
    replace o_l := o_l.below d
    replace hb := below_after hb d
    clear d
    go_wp2_with fail
    refine (sjoins_any A_l _ c_l _ sk l w10 o_l m_l (unhide q_l)).mono ?_
    rintro e w11 ⟨A_h, c_h, rfl, o_h, d⟩
    replace o_p := o_p.below d
    replace o_a := o_a.below d
    replace o_b := o_b.below d
    replace o_x := o_x.below d
    replace o_y := o_y.below d
    replace o_s := o_s.below d
    replace o_t := o_t.below d
    replace o_u := o_u.below d
    replace o_v := o_v.below d
    replace o_l := o_l.below d
    replace o_j := o_j.below d
    replace hb := below_after hb d
    clear d
    go_wp2_with fail
    refine (dlayer_any A n c w.heap.size bs w11 (hr.below hb) hbig hb.size).mono ?_
    rintro e w12 ⟨A_i, c_i, i, rfl, l_i, o_i, d⟩
    replace o_p := o_p.below d
    replace o_a := o_a.below d
    replace o_b := o_b.below d
    replace o_x := o_x.below d
    replace o_y := o_y.below d
    replace o_s := o_s.below d
    replace o_t := o_t.below d
    replace o_u := o_u.below d
    replace o_v := o_v.below d
    replace o_l := o_l.below d
    replace o_j := o_j.below d
    replace o_h := o_h.below d
    replace hb := below_after hb d
    clear d
    replace l_i := hide l_i
    obtain ⟨f, hf⟩ : ∃ f, fit x y = f := ⟨_, rfl⟩
    rw [hf]
    obtain ⟨g, hg⟩ : ∃ g, allFit l = g := ⟨_, rfl⟩
    rw [hg]
    have HF := hide hf
    clear hf hg
    go_wp2_with fail
    refine (sparts_any A_p _ c_p _ p w12 ((unhide l_p).arg o_p (by omega))).mono ?_
    rintro e w13 ⟨A_a2, c_a2, rfl, o_a2, d⟩
    replace o_p := o_p.below d
    replace o_a := o_a.below d
    replace o_b := o_b.below d
    replace o_x := o_x.below d
    replace o_y := o_y.below d
    replace o_s := o_s.below d
    replace o_t := o_t.below d
    replace o_u := o_u.below d
    replace o_v := o_v.below d
    replace o_l := o_l.below d
    replace o_j := o_j.below d
    replace o_h := o_h.below d
    replace o_i := o_i.below d
    replace hb := below_after hb d
    clear d
    go_wp2_with fail
    refine (samess_any _ _ _ _ _ _ _ _ _ _ o_a o_a2 (by have := (partsR_small p).1; omega) (by have := (partsR_small p).2; omega)).mono ?_
    rintro e w14 ⟨rfl, d0⟩
    have d := d0.below w13.heap.size
    clear d0
    replace o_p := o_p.below d
    replace o_a := o_a.below d
    replace o_b := o_b.below d
    replace o_x := o_x.below d
    replace o_y := o_y.below d
    replace o_s := o_s.below d
    replace o_t := o_t.below d
    replace o_u := o_u.below d
    replace o_v := o_v.below d
    replace o_l := o_l.below d
    replace o_j := o_j.below d
    replace o_h := o_h.below d
    replace o_i := o_i.below d
    replace o_a2 := o_a2.below d
    replace hb := below_after hb d
    clear d
    clear o_a2
    go_wp2_with fail
    refine (sskews_any A_p _ c_p _ p w14 ((unhide l_p).arg o_p (by omega))).mono ?_
    rintro e w15 ⟨A_b2, c_b2, rfl, o_b2, d⟩
    replace o_p := o_p.below d
    replace o_a := o_a.below d
    replace o_b := o_b.below d
    replace o_x := o_x.below d
    replace o_y := o_y.below d
    replace o_s := o_s.below d
    replace o_t := o_t.below d
    replace o_u := o_u.below d
    replace o_v := o_v.below d
    replace o_l := o_l.below d
    replace o_j := o_j.below d
    replace o_h := o_h.below d
    replace o_i := o_i.below d
    replace hb := below_after hb d
    clear d
    go_wp2_with fail
    refine (samess_any _ _ _ _ _ _ _ _ _ _ o_b o_b2 (by have := (skewsR_small p).1; omega) (by have := (skewsR_small p).2; omega)).mono ?_
    rintro e w16 ⟨rfl, d0⟩
    have d := d0.below w15.heap.size
    clear d0
    replace o_p := o_p.below d
    replace o_a := o_a.below d
    replace o_b := o_b.below d
    replace o_x := o_x.below d
    replace o_y := o_y.below d
    replace o_s := o_s.below d
    replace o_t := o_t.below d
    replace o_u := o_u.below d
    replace o_v := o_v.below d
    replace o_l := o_l.below d
    replace o_j := o_j.below d
    replace o_h := o_h.below d
    replace o_i := o_i.below d
    replace o_b2 := o_b2.below d
    replace hb := below_after hb d
    clear d
    clear o_b2
    go_wp2_with fail
    refine (samei_any _ _ _ _ _ _ _ _ _ _ o_s.reads o_t.reads (by have := joinR_le false x y; omega)).mono ?_
    rintro e w17 ⟨rfl, d0⟩
    have d := d0.below w16.heap.size
    clear d0
    replace o_p := o_p.below d
    replace o_a := o_a.below d
    replace o_b := o_b.below d
    replace o_x := o_x.below d
    replace o_y := o_y.below d
    replace o_s := o_s.below d
    replace o_t := o_t.below d
    replace o_u := o_u.below d
    replace o_v := o_v.below d
    replace o_l := o_l.below d
    replace o_j := o_j.below d
    replace o_h := o_h.below d
    replace o_i := o_i.below d
    replace hb := below_after hb d
    clear d
    clear o_t
    go_wp2_with fail
    refine (samei_any _ _ _ _ _ _ _ _ _ _ o_u.reads o_v.reads (by have := joinR_le true x y; omega)).mono ?_
    rintro e w18 ⟨rfl, d0⟩
    have d := d0.below w17.heap.size
    clear d0
    replace o_p := o_p.below d
    replace o_a := o_a.below d
    replace o_b := o_b.below d
    replace o_x := o_x.below d
    replace o_y := o_y.below d
    replace o_s := o_s.below d
    replace o_u := o_u.below d
    replace o_v := o_v.below d
    replace o_l := o_l.below d
    replace o_j := o_j.below d
    replace o_h := o_h.below d
    replace o_i := o_i.below d
    replace hb := below_after hb d
    clear d
    clear o_u
    clear o_v
    go_wp2_with fail
    refine (samei_any _ _ _ _ _ _ _ _ _ _ o_j.reads o_h.reads (by have := joinsR_le sk l; omega)).mono ?_
    rintro e w19 ⟨rfl, d0⟩
    have d := d0.below w18.heap.size
    clear d0
    replace o_p := o_p.below d
    replace o_a := o_a.below d
    replace o_b := o_b.below d
    replace o_x := o_x.below d
    replace o_y := o_y.below d
    replace o_s := o_s.below d
    replace o_l := o_l.below d
    replace o_j := o_j.below d
    replace o_h := o_h.below d
    replace o_i := o_i.below d
    replace hb := below_after hb d
    clear d
    clear o_j
    clear o_h
    clear o_l
    go_wp2_with fail
    refine (ilayer_any A_i _ c_i _ i w19 ((unhide l_i).arg o_i (by omega))).mono ?_
    rintro e w20 ⟨rfl, d⟩
    replace o_p := o_p.below d
    replace o_a := o_a.below d
    replace o_b := o_b.below d
    replace o_x := o_x.below d
    replace o_y := o_y.below d
    replace o_s := o_s.below d
    replace o_i := o_i.below d
    replace hb := below_after hb d
    clear d
    go_wp2_with fail
    refine (slayer_any A_i _ c_i _ i w20 ((unhide l_i).arg o_i (by omega))).mono ?_
    rintro e w21 ⟨rfl, d⟩
    replace o_p := o_p.below d
    replace o_a := o_a.below d
    replace o_b := o_b.below d
    replace o_x := o_x.below d
    replace o_y := o_y.below d
    replace o_s := o_s.below d
    replace o_i := o_i.below d
    replace hb := below_after hb d
    clear d
    clear o_i
    obtain ⟨hp, hhp⟩ : ∃ hp, isP p = hp := ⟨_, rfl⟩
    go_wp2_with fail
    refine (sisperm_any A_p _ c_p _ p hp hhp w21 ((unhide l_p).arg o_p (by omega)).reads ((unhide l_p).arg o_p (by omega)).le ((unhide l_p).arg o_p (by omega)).cap).mono ?_
    rintro e w22 ⟨rfl, d0⟩
    have d := d0.below w21.heap.size
    clear d0
    replace o_p := o_p.below d
    replace o_a := o_a.below d
    replace o_b := o_b.below d
    replace o_x := o_x.below d
    replace o_y := o_y.below d
    replace o_s := o_s.below d
    replace hb := below_after hb d
    clear d
    cases hp with
    | false =>
      have la : (partsR p).length = 0 := by rw [partsR_no hhp]; rfl
      have lb : (skewsR p).length = 0 := by rw [skewsR_no hhp]; rfl
      clear hhp
      go_wp2
      go_ret
      exact ⟨rfl, hb⟩
    | true =>
      have J1 := hide (joins_parts hhp)
      have J2 := hide (joins_skews hhp)
      have hp8 := isP_le hhp
      clear hhp
      have Kc := ijoins_any A_a _ c_a _ false (partsR p) w22 o_a (by have := (partsR_small p).1; omega) (fun z hz => ⟨by have := isP_le (partsR_isP hz); omega, isP_small (partsR_isP hz)⟩)
      rw [unhide J1, parts_fit p] at Kc
      have HKc := hide Kc
      clear Kc
      go_wp2_with fail
      refine (unhide HKc).mono ?_
      rintro e w23 ⟨A_c, c_c, rfl, o_c, d⟩
      replace o_p := o_p.below d
      replace o_a := o_a.below d
      replace o_b := o_b.below d
      replace o_x := o_x.below d
      replace o_y := o_y.below d
      replace o_s := o_s.below d
      replace hb := below_after hb d
      clear d
      clear HKc
      have Kd := ijoins_any A_b _ c_b _ true (skewsR p) w23 o_b (by have := (skewsR_small p).1; omega) (fun z hz => ⟨by have := isP_le (skewsR_isP hz); omega, isP_small (skewsR_isP hz)⟩)
      rw [unhide J2, skews_fit p] at Kd
      have HKd := hide Kd
      clear Kd
      go_wp2_with fail
      refine (unhide HKd).mono ?_
      rintro e w24 ⟨A_d, c_d, rfl, o_d, d⟩
      replace o_p := o_p.below d
      replace o_a := o_a.below d
      replace o_b := o_b.below d
      replace o_x := o_x.below d
      replace o_y := o_y.below d
      replace o_s := o_s.below d
      replace o_c := o_c.below d
      replace hb := below_after hb d
      clear d
      clear HKd
      go_wp2_with fail
      refine (samei_any _ _ _ _ _ _ _ _ _ _ o_c.reads o_p.reads (by omega)).mono ?_
      rintro e w25 ⟨rfl, d0⟩
      have d := d0.below w24.heap.size
      clear d0
      replace o_p := o_p.below d
      replace o_a := o_a.below d
      replace o_b := o_b.below d
      replace o_x := o_x.below d
      replace o_y := o_y.below d
      replace o_s := o_s.below d
      replace o_c := o_c.below d
      replace o_d := o_d.below d
      replace hb := below_after hb d
      clear d
      clear o_c
      go_wp2_with fail
      refine (samei_any _ _ _ _ _ _ _ _ _ _ o_d.reads o_p.reads (by omega)).mono ?_
      rintro e w26 ⟨rfl, d0⟩
      have d := d0.below w25.heap.size
      clear d0
      replace o_p := o_p.below d
      replace o_a := o_a.below d
      replace o_b := o_b.below d
      replace o_x := o_x.below d
      replace o_y := o_y.below d
      replace o_s := o_s.below d
      replace o_d := o_d.below d
      replace hb := below_after hb d
      clear d
      clear o_d
      by_cases h1 : 1 < (partsR p).length
      · have h2 : ¬ 1 < (skewsR p).length := fun h2 => not_both h1 h2
        have h1' : (1 : Int) < ((partsR p).length : Int) := by omega
        have h2' : ¬ (1 : Int) < ((skewsR p).length : Int) := by omega
        clear h1 h2
        cases f with
        | false =>
          go_wp2
          go_ret
          exact ⟨rfl, hb⟩
        | true =>
          have hq : ((partsR (joinR false x y)).length : Int) = ((partsR x).length : Int) + ((partsR y).length : Int) := by have := parts_join (unhide HF); omega
          have HQ := hide hq
          clear hq
          have l_s := hide (joinR_lite false x y)
          have b1 := (partsR_small x).1
          have b2 := (partsR_small y).1
          go_wp2_with fail
          refine (iparts_any A_s _ c_s _ _ w26 ((unhide l_s).arg o_s (by omega))).mono ?_
          rintro e w27 ⟨A_e, c_e, rfl, o_e, d⟩
          replace o_p := o_p.below d
          replace o_a := o_a.below d
          replace o_b := o_b.below d
          replace o_x := o_x.below d
          replace o_y := o_y.below d
          replace o_s := o_s.below d
          replace hb := below_after hb d
          clear d
          clear o_e
          go_wp2_with fail
          refine (sparts_any A_x _ c_x _ x w27 ((unhide l_x).arg o_x (by omega))).mono ?_
          rintro e w28 ⟨A_e, c_e, rfl, o_e, d⟩
          replace o_p := o_p.below d
          replace o_a := o_a.below d
          replace o_b := o_b.below d
          replace o_x := o_x.below d
          replace o_y := o_y.below d
          replace o_s := o_s.below d
          replace hb := below_after hb d
          clear d
          clear o_e
          go_wp2_with fail
          refine (sparts_any A_y _ c_y _ y w28 ((unhide l_y).arg o_y (by omega))).mono ?_
          rintro e w29 ⟨A_e, c_e, rfl, o_e, d⟩
          replace o_p := o_p.below d
          replace o_a := o_a.below d
          replace o_b := o_b.below d
          replace o_x := o_x.below d
          replace o_y := o_y.below d
          replace o_s := o_s.below d
          replace hb := below_after hb d
          clear d
          clear o_e
          have hq := unhide HQ
          go_wp2
          go_ret
          exact ⟨rfl, hb⟩
      · have h1' : ¬ (1 : Int) < ((partsR p).length : Int) := by omega
        clear h1
        cases f with
        | false =>
          go_wp2
          go_ret
          exact ⟨rfl, hb⟩
        | true =>
          have hq : ((partsR (joinR false x y)).length : Int) = ((partsR x).length : Int) + ((partsR y).length : Int) := by have := parts_join (unhide HF); omega
          have HQ := hide hq
          clear hq
          have l_s := hide (joinR_lite false x y)
          have b1 := (partsR_small x).1
          have b2 := (partsR_small y).1
          go_wp2_with fail
          refine (iparts_any A_s _ c_s _ _ w26 ((unhide l_s).arg o_s (by omega))).mono ?_
          rintro e w27 ⟨A_e, c_e, rfl, o_e, d⟩
          replace o_p := o_p.below d
          replace o_a := o_a.below d
          replace o_b := o_b.below d
          replace o_x := o_x.below d
          replace o_y := o_y.below d
          replace o_s := o_s.below d
          replace hb := below_after hb d
          clear d
          clear o_e
          go_wp2_with fail
          refine (sparts_any A_x _ c_x _ x w27 ((unhide l_x).arg o_x (by omega))).mono ?_
          rintro e w28 ⟨A_e, c_e, rfl, o_e, d⟩
          replace o_p := o_p.below d
          replace o_a := o_a.below d
          replace o_b := o_b.below d
          replace o_x := o_x.below d
          replace o_y := o_y.below d
          replace o_s := o_s.below d
          replace hb := below_after hb d
          clear d
          clear o_e
          go_wp2_with fail
          refine (sparts_any A_y _ c_y _ y w28 ((unhide l_y).arg o_y (by omega))).mono ?_
          rintro e w29 ⟨A_e, c_e, rfl, o_e, d⟩
          replace o_p := o_p.below d
          replace o_a := o_a.below d
          replace o_b := o_b.below d
          replace o_x := o_x.below d
          replace o_y := o_y.below d
          replace o_s := o_s.below d
          replace hb := below_after hb d
          clear d
          clear o_e
          have hq := unhide HQ
          go_wp2
          go_ret
          exact ⟨rfl, hb⟩
  · rw [show decide (1048576 < n) = true from decide_eq_true (by omega)] at HG
    clear hr hn
    go_enter Try.func3, Try.ntmps3
    go_wp2_with fail
    refine (unhide HG).mono ?_
    rintro e w0 ⟨rfl, rfl⟩
    go_wp2
    go_ret
    exact ⟨rfl, Below.refl _ _⟩
theorem params_ok : ∀ t ∈ (#[22] : Array TypeId).toList, Try.prog.readableRec t = true ∧ t < Try.prog.types.size := by
  intro t ht
  simp only [List.mem_cons, List.not_mem_nil, or_false] at ht
  subst ht
  exact ⟨by kernel_rfl, of_decide_eq_true (by kernel_rfl)⟩

set_option maxRecDepth 100000 in
/-- WHAT THE WALK GIVES, FOR EVERY ARGUMENT. -/
theorem contract (H : Type) (enc : TypeId × Value → H) (W : World) (base : Nat) (args : Array Value) (ds gs : List (DataW H)) (before : List MemPlace)
    (hval : ∀ (j : Nat) t v, Try.f3.params[j]? = some t → args[j]? = some v → Value.okWide Try.prog W .any base t v)
    (hW : DataW.Whole enc Try.prog Try.f3.params.toList Rows.fnSumsSpec.vars false W args.toList ds gs before) :
    Calls Try.prog 3 args W fun e W' => ∃ v, e = .returned v ∧ Rows.fnSumsSpec.post enc Try.prog Try.f3 false true false false W args v W' := by
  have hW' := hW
  obtain ⟨p, q, hA0, hV, rfl, hfz, hnd⟩ := hW
  have hA : DataW.TrodAll enc Try.prog W 0 (fun _ => true) true Try.f3.params.toList args.toList ds p := hA0
  rw [Try.params3] at hA hval
  obtain ⟨v0, d0, rfl, rfl, h0⟩ := trodAll_one hA
  obtain ⟨rfl, rfl⟩ := trodVars_none hV
  obtain ⟨Abs, nbs, cbs, bs, rfl, hrbs, hnbs⟩ := open_bytes_reads Try.underlying22 Try.underlying5 cellsByte (hval 0 22 v0 rfl rfl) h0 (fun x hx => by simpa using hW'.lt x (by simp [hx]))
  refine (walk Abs nbs cbs bs W hrbs hnbs).mono fun e W' ⟨he, hb⟩ => ?_
  subst he
  exact ⟨_, rfl, law_end laidOut (by rw [Try.params3]; exact params_ok) Try.underlying4 rfl rfl hW' rfl hb⟩

set_option maxRecDepth 100000 in
theorem lifted (os : Os) (started : os.Started) (H : Type) (enc : TypeId × Value → H) :
    ReturnsInHanded {} Try.checked os 3 .any (Rows.fnSumsSpec.pre6 enc Try.prog Try.f3 Rows.fnSumsRow.domain false) (Rows.fnSumsSpec.post enc Try.prog Try.f3 false true false false) := by
  refine returnsInHanded_of_change (C := Try.checked) own started (by kernel_rfl) Try.func3
    (ChangeSpec.witness6 (enc := enc) (C := Try.checked) false ⟨#[], #[.slice none 0 0], []⟩ 8 (by kernel_rfl) (by kernel_rfl) (by kernel_rfl) (by kernel_rfl)) ?_
  intro W base args ds gs before hval hW _ _
  exact contract H enc W base args ds gs before hval hW

theorem proved : Rows.FnSumsSaid :=
  OpenClaim.holds_of_wide 3 Try.f3 rfl rfl rfl rfl rfl rfl rfl ⟨rfl, rfl, rfl, rfl, rfl⟩ rfl rfl rfl rfl rfl (by kernel_rfl) Try.func3 (by kernel_rfl)
    (of_decide_eq_true (by kernel_rfl)) (by unfold Func.isWrapper; first | (rw [if_pos (by decide +kernel)]; kernel_rfl) | (rw [if_neg (by decide +kernel)]; exact ⟨rfl, rfl⟩))
    (fun os started H enc _ => lifted os started H enc)
end Go.Proofs.Ytoiipedomgefaaa.fnSums
