
/-
  THE LAW FnSymmetries: there are eight symmetries, and classes of symmetries are the same for their elements. (Written by wip/tools/mkfnsymm.py.)
-/
import Derived.Test.YtkjjjnkgkgdfkaaDrawV
import Derived.Test.YtkjjjnkgkgdfkaaSames
import Derived.Test.YtkjjjnkgkgdfkaaSymG
import Derived.Test.YtkjjjnkgkgdfkaaSymS
import Derived.Test.YtkjjjnkgkgdfkaaSymI
import Derived.Test.YtkjjjnkgkgdfkaaClsS
import Derived.Test.YtkjjjnkgkgdfkaaClsI
import Derived.Test.YtkjjjnkgkgdfkaaOrdI
import Derived.Test.YtkjjjnkgkgdfkaaOrdS
import Derived.Test.YtkjjjnkgkgdfkaaRev
import Derived.Test.YtkjjjnkgkgdfkaaTurn
import Derived.Test.YtkjjjnkgkgdfkaaSame
import Derived.Test.YtkjjjnkgkgdfkaaBig
import Derived.Test.YtkjjjnkgkgdfkaaEnd
namespace Go.Proofs.Ytkjjjnkgkgdfkaa.fnSymmetries
set_option maxRecDepth 100000
open Go.RowKit Go.ChangeShapes Go.WideShapes Go.ChangeAt

theorem lite_isP {p : List Int} (h : isP p = true) : Lite 9 p := ⟨by have := isP_le h; omega, isP_small h⟩
theorem symR_lite (p : List Int) (k : Int) : Lite 9 (symR p k) := by
  cases h : symOK p k with
  | true =>
    rw [symR_yes h]
    simp only [symOK, Bool.and_eq_true] at h
    exact lite_isP (symL_isP h.1 _)
  | false => rw [symR_no h]; exact ⟨by simp, small_nil⟩
theorem sym_in {p : List Int} {k : Int} (h : symOK p k = true) : symR p k ∈ clsR p ∧ clsR (symR p k) = clsR p := by
  rw [symR_yes h]
  simp only [symOK, Bool.and_eq_true, decide_eq_true_eq] at h
  obtain ⟨hp, hk⟩ := h
  exact ⟨(mem_cls hp).2 ⟨k.toNat, by omega, rfl⟩, cls_sym hp (by omega)⟩
theorem self_in {p : List Int} (h : isP p = true) : p ∈ clsR p := (mem_cls h).2 ⟨0, by omega, (sym_list p).1⟩
theorem rev2 {p : List Int} (h : isP p = true) : Lite 9 (revR p) ∧ revR (revR p) = p := by
  rw [revR_yes h]
  exact ⟨lite_isP (isP_rev h), by rw [revR_yes (isP_rev h), List.reverse_reverse]⟩
theorem cpl2 {p : List Int} (h : isP p = true) : Lite 9 (cplR p) ∧ cplR (cplR p) = p := by
  rw [cplR_yes h]
  exact ⟨lite_isP (isP_cpl h), by rw [cplR_yes (isP_cpl h), cpl_cpl]⟩
theorem cls_size {p : List Int} (h : isP p = true) : (clsR p).length = 1 ∨ (clsR p).length = 2 ∨ (clsR p).length = 4 ∨ (clsR p).length = 8 := by
  obtain ⟨h1, h2⟩ := cls_div h
  have h3 := clsR_len p
  obtain ⟨l, hl⟩ : ∃ l, (clsR p).length = l := ⟨_, rfl⟩
  rw [hl] at h1 h2 h3 ⊢
  rcases (show l = 1 ∨ l = 2 ∨ l = 3 ∨ l = 4 ∨ l = 5 ∨ l = 6 ∨ l = 7 ∨ l = 8 by omega) with rfl | rfl | rfl | rfl | rfl | rfl | rfl | rfl <;> first | omega | (revert h2; decide)
theorem cls_lists (p : List Int) : ∀ z ∈ clsR p, z.length ≤ 1048576 ∧ Small z := fun z hz => ⟨by have := isP_le (clsR_mem hz); omega, isP_small (clsR_mem hz)⟩
theorem tot_lite : ∀ l : List (List Int), (∀ z ∈ l, Lite 9 z) → tot l ≤ 9 * l.length
  | [], _ => by simp [tot]
  | z :: l, h => by
    have h1 := tot_lite l (fun y hy => h y (List.mem_cons_of_mem _ hy))
    have h2 := (h z List.mem_cons_self).1
    have h3 : tot (z :: l) = z.length + tot l := by simp [tot]
    rw [h3, List.length_cons]; omega

set_option maxRecDepth 100000 in
set_option maxHeartbeats 12800000 in
theorem walk (A : Option Addr) (n c : Nat) (bs : List UInt8) (w : World) (hr : Reads w w.heap.size A n (u8s bs)) (hn : n ≤ maxLen) :
    Calls Try.prog 4 #[.slice A n c] w fun e w' => e = .returned (.bool true) ∧ Below w.heap.size w w' := by
  unfold maxLen at hn
  have HG := hide (big_any A n c hn w)
  by_cases hbig : n ≤ 1048576
  · rw [show decide (1048576 < n) = false from decide_eq_false (by omega)] at HG
    go_enter Try.func4, Try.ntmps4
    go_wp2_with fail
    refine (unhide HG).mono ?_
    rintro e w0 ⟨rfl, rfl⟩
    clear HG
    have hb := Below.refl w.heap.size w
    go_wp2_with fail
    refine (dsym_any A n c w.heap.size bs w (hr.below hb) hbig hb.size).mono ?_
    rintro e w1 ⟨A_p, c_p, p, k, rfl, l_p, n_k, o_p, d⟩
    replace hb := below_after hb d
    clear d
    replace l_p := hide l_p
    have k64 : -9223372036854775808 ≤ k ∧ k ≤ 9223372036854775807 := by omega
    go_wp2_with fail
    refine (isym_any A_p _ c_p _ p k k64 w1 ((unhide l_p).arg o_p (by omega))).mono ?_
    rintro e w2 ⟨A_q, c_q, rfl, o_q, d⟩
    replace o_p := o_p.below d
    replace hb := below_after hb d
    clear d
    go_wp2_with fail
    refine (ssym_any A_p _ c_p _ p k k64 w2 ((unhide l_p).arg o_p (by omega))).mono ?_
    rintro e w3 ⟨A_q2, c_q2, rfl, o_q2, d⟩
    replace o_p := o_p.below d
    replace o_q := o_q.below d
    replace hb := below_after hb d
    clear d
    go_wp2_with fail
    refine (icls_any A_p _ c_p _ p w3 ((unhide l_p).arg o_p (by omega))).mono ?_
    rintro e w4 ⟨A_c, c_c, rfl, o_c, d⟩
    replace o_p := o_p.below d
    replace o_q := o_q.below d
    replace o_q2 := o_q2.below d
    replace hb := below_after hb d
    clear d
    go_wp2_with fail
    refine (dord_any A n c w.heap.size bs w4 (hr.below hb) hbig hb.size).mono ?_
    rintro e w5 ⟨A_l, c_l, l, rfl, n_l, l_l, o_l, d⟩
    replace o_p := o_p.below d
    replace o_q := o_q.below d
    replace o_q2 := o_q2.below d
    replace o_c := o_c.below d
    replace hb := below_after hb d
    clear d
    replace l_l := hide l_l
    have m_l : l.length ≤ 1048576 := by omega
    have q_l := hide (fun z (hz : z ∈ l) => (show z.length ≤ 1048576 ∧ Small z from ⟨by have := (unhide l_l z hz).1; omega, (unhide l_l z hz).2⟩))
    have t_l : tot l ≤ 1048576 := by
      have := tot_lite l (unhide l_l)
      omega
    go_wp2_with fail
    refine (dinvol_any A n c w.heap.size bs w5 (hr.below hb) hbig hb.size).mono ?_
    rintro e w6 ⟨A_i, c_i, i, rfl, l_i, o_i, d⟩
    replace o_p := o_p.below d
    replace o_q := o_q.below d
    replace o_q2 := o_q2.below d
    replace o_c := o_c.below d
    replace o_l := o_l.below d
    replace hb := below_after hb d
    clear d
    replace l_i := hide l_i
    obtain ⟨f, hf⟩ : ∃ f, symOK p k = f := ⟨_, rfl⟩
    rw [hf]
    have HF := hide hf
    clear hf
    go_wp2_with fail
    refine (samei_any _ _ _ _ _ _ _ _ _ _ o_q.reads o_q2.reads (by have := symR_le p k; omega)).mono ?_
    rintro e w7 ⟨rfl, d0⟩
    have d := d0.below w6.heap.size
    clear d0
    replace o_p := o_p.below d
    replace o_q := o_q.below d
    replace o_q2 := o_q2.below d
    replace o_c := o_c.below d
    replace o_l := o_l.below d
    replace o_i := o_i.below d
    replace hb := below_after hb d
    clear d
    clear o_q2
    go_wp2_with fail
    refine (scls_any A_p _ c_p _ p w7 ((unhide l_p).arg o_p (by omega))).mono ?_
    rintro e w8 ⟨A_c2, c_c2, rfl, o_c2, d⟩
    replace o_p := o_p.below d
    replace o_q := o_q.below d
    replace o_c := o_c.below d
    replace o_l := o_l.below d
    replace o_i := o_i.below d
    replace hb := below_after hb d
    clear d
    go_wp2_with fail
    refine (samess_any _ _ _ _ _ _ _ _ _ _ o_c o_c2 (by have := (clsR_small p).1; omega) (by have := (clsR_small p).2; omega)).mono ?_
    rintro e w9 ⟨rfl, d0⟩
    have d := d0.below w8.heap.size
    clear d0
    replace o_p := o_p.below d
    replace o_q := o_q.below d
    replace o_c := o_c.below d
    replace o_l := o_l.below d
    replace o_i := o_i.below d
    replace o_c2 := o_c2.below d
    replace hb := below_after hb d
    clear d
    clear o_c2
    go_wp2_with fail
    refine (iord_any A_l _ c_l _ l w9 o_l m_l (unhide q_l)).mono ?_
    rintro e w10 ⟨A_m, c_m, rfl, o_m, d⟩
    replace o_p := o_p.below d
    replace o_q := o_q.below d
    replace o_c := o_c.below d
    replace o_l := o_l.below d
    replace o_i := o_i.below d
    replace hb := below_after hb d
    clear d
    go_wp2_with fail
    refine (sord_any A_l _ c_l _ l w10 o_l m_l (unhide q_l)).mono ?_
    rintro e w11 ⟨A_m2, c_m2, rfl, o_m2, d⟩
    replace o_p := o_p.below d
    replace o_q := o_q.below d
    replace o_c := o_c.below d
    replace o_l := o_l.below d
    replace o_i := o_i.below d
    replace o_m := o_m.below d
    replace hb := below_after hb d
    clear d
    go_wp2_with fail
    refine (samess_any _ _ _ _ _ _ _ _ _ _ o_m o_m2 (by have := ordR_len l; omega) (by have := ordR_tot l; omega)).mono ?_
    rintro e w12 ⟨rfl, d0⟩
    have d := d0.below w11.heap.size
    clear d0
    replace o_p := o_p.below d
    replace o_q := o_q.below d
    replace o_c := o_c.below d
    replace o_l := o_l.below d
    replace o_i := o_i.below d
    replace o_m := o_m.below d
    replace o_m2 := o_m2.below d
    replace hb := below_after hb d
    clear d
    clear o_m
    clear o_m2
    clear o_l
    go_wp2_with fail
    refine (iinvol_any A_i _ c_i _ i w12 ((unhide l_i).arg o_i (by omega))).mono ?_
    rintro e w13 ⟨rfl, d⟩
    replace o_p := o_p.below d
    replace o_q := o_q.below d
    replace o_c := o_c.below d
    replace o_i := o_i.below d
    replace hb := below_after hb d
    clear d
    go_wp2_with fail
    refine (sinvol_any A_i _ c_i _ i w13 ((unhide l_i).arg o_i (by omega))).mono ?_
    rintro e w14 ⟨rfl, d⟩
    replace o_p := o_p.below d
    replace o_q := o_q.below d
    replace o_c := o_c.below d
    replace o_i := o_i.below d
    replace hb := below_after hb d
    clear d
    clear o_i
    go_wp2_with fail
    refine (ileast_any A_p _ c_p _ p w14 ((unhide l_p).arg o_p (by omega))).mono ?_
    rintro e w15 ⟨A_x, c_x, rfl, o_x, d⟩
    replace o_p := o_p.below d
    replace o_q := o_q.below d
    replace o_c := o_c.below d
    replace hb := below_after hb d
    clear d
    go_wp2_with fail
    refine (sleast_any A_p _ c_p _ p w15 ((unhide l_p).arg o_p (by omega))).mono ?_
    rintro e w16 ⟨A_y, c_y, rfl, o_y, d⟩
    replace o_p := o_p.below d
    replace o_q := o_q.below d
    replace o_c := o_c.below d
    replace o_x := o_x.below d
    replace hb := below_after hb d
    clear d
    go_wp2_with fail
    refine (samei_any _ _ _ _ _ _ _ _ _ _ o_x.reads o_y.reads (by have := leastR_le p; omega)).mono ?_
    rintro e w17 ⟨rfl, d0⟩
    have d := d0.below w16.heap.size
    clear d0
    replace o_p := o_p.below d
    replace o_q := o_q.below d
    replace o_c := o_c.below d
    replace o_x := o_x.below d
    replace o_y := o_y.below d
    replace hb := below_after hb d
    clear d
    clear o_x
    clear o_y
    go_wp2_with fail
    refine (irev_any A_p _ c_p _ p w17 ((unhide l_p).arg o_p (by omega))).mono ?_
    rintro e w18 ⟨A_x, c_x, rfl, o_x, d⟩
    replace o_p := o_p.below d
    replace o_q := o_q.below d
    replace o_c := o_c.below d
    replace hb := below_after hb d
    clear d
    go_wp2_with fail
    refine (srev_any A_p _ c_p _ p w18 ((unhide l_p).arg o_p (by omega))).mono ?_
    rintro e w19 ⟨A_y, c_y, rfl, o_y, d⟩
    replace o_p := o_p.below d
    replace o_q := o_q.below d
    replace o_c := o_c.below d
    replace o_x := o_x.below d
    replace hb := below_after hb d
    clear d
    go_wp2_with fail
    refine (samei_any _ _ _ _ _ _ _ _ _ _ o_x.reads o_y.reads (by have := revR_le p; omega)).mono ?_
    rintro e w20 ⟨rfl, d0⟩
    have d := d0.below w19.heap.size
    clear d0
    replace o_p := o_p.below d
    replace o_q := o_q.below d
    replace o_c := o_c.below d
    replace o_x := o_x.below d
    replace o_y := o_y.below d
    replace hb := below_after hb d
    clear d
    clear o_x
    clear o_y
    go_wp2_with fail
    refine (icpl_any A_p _ c_p _ p w20 ((unhide l_p).arg o_p (by omega))).mono ?_
    rintro e w21 ⟨A_x, c_x, rfl, o_x, d⟩
    replace o_p := o_p.below d
    replace o_q := o_q.below d
    replace o_c := o_c.below d
    replace hb := below_after hb d
    clear d
    go_wp2_with fail
    refine (scpl_any A_p _ c_p _ p w21 ((unhide l_p).arg o_p (by omega))).mono ?_
    rintro e w22 ⟨A_y, c_y, rfl, o_y, d⟩
    replace o_p := o_p.below d
    replace o_q := o_q.below d
    replace o_c := o_c.below d
    replace o_x := o_x.below d
    replace hb := below_after hb d
    clear d
    go_wp2_with fail
    refine (samei_any _ _ _ _ _ _ _ _ _ _ o_x.reads o_y.reads (by have := cplR_le p; omega)).mono ?_
    rintro e w23 ⟨rfl, d0⟩
    have d := d0.below w22.heap.size
    clear d0
    replace o_p := o_p.below d
    replace o_q := o_q.below d
    replace o_c := o_c.below d
    replace o_x := o_x.below d
    replace o_y := o_y.below d
    replace hb := below_after hb d
    clear d
    clear o_x
    clear o_y
    cases f with
    | false =>
      obtain ⟨hp, hhp⟩ : ∃ hp, isP p = hp := ⟨_, rfl⟩
      go_wp2_with fail
      refine (sisperm_any A_p _ c_p _ p hp hhp w23 ((unhide l_p).arg o_p (by omega)).reads ((unhide l_p).arg o_p (by omega)).le ((unhide l_p).arg o_p (by omega)).cap).mono ?_
      rintro e w24 ⟨rfl, d0⟩
      have d := d0.below w23.heap.size
      clear d0
      replace o_p := o_p.below d
      replace o_q := o_q.below d
      replace o_c := o_c.below d
      replace hb := below_after hb d
      clear d
      cases hp with
      | false =>
        have lc : (clsR p).length = 0 := by rw [clsR_no hhp]; rfl
        clear hhp
        go_wp2
        go_ret
        exact ⟨rfl, hb⟩
      | true =>
        have HS := hide (cls_size hhp)
        have HIN := hide (self_in hhp)
        have R2 := hide (rev2 hhp)
        have C2 := hide (cpl2 hhp)
        have hp8 := isP_le hhp
        clear hhp
        obtain ⟨ll, hll⟩ : ∃ ll, (clsR p).length = ll := ⟨_, rfl⟩
        rw [hll] at o_c HS ⊢
        clear hll
        rcases unhide HS with rfl | rfl | rfl | rfl
        · clear HS
          go_wp2_with fail
          refine (has_any _ _ _ _ _ _ _ _ _ p w24 o_c ((unhide l_p).arg o_p (by omega)) (cls_lists p) (by omega) (unhide HIN)).mono ?_
          rintro e w25 ⟨rfl, d0⟩
          have d := d0.below w24.heap.size
          clear d0
          replace o_p := o_p.below d
          replace o_q := o_q.below d
          replace o_c := o_c.below d
          replace hb := below_after hb d
          clear d
          go_wp2_with fail
          refine (irev_any A_p _ c_p _ p w25 ((unhide l_p).arg o_p (by omega))).mono ?_
          rintro e w26 ⟨A_x, c_x, rfl, o_x, d⟩
          replace o_p := o_p.below d
          replace o_q := o_q.below d
          replace o_c := o_c.below d
          replace hb := below_after hb d
          clear d
          have l_x := hide (unhide R2).1
          have b_x := (unhide l_x).1
          have K := irev_any A_x _ c_x _ (revR p) w26 ((unhide l_x).arg o_x (by omega))
          rw [(unhide R2).2] at K
          have HK := hide K
          clear K
          go_wp2_with fail
          refine (unhide HK).mono ?_
          rintro e w27 ⟨A_y, c_y, rfl, o_y, d⟩
          replace o_p := o_p.below d
          replace o_q := o_q.below d
          replace o_c := o_c.below d
          replace o_x := o_x.below d
          replace hb := below_after hb d
          clear d
          clear HK
          go_wp2_with fail
          refine (samei_any _ _ _ _ _ _ _ _ _ _ o_y.reads o_p.reads (by omega)).mono ?_
          rintro e w28 ⟨rfl, d0⟩
          have d := d0.below w27.heap.size
          clear d0
          replace o_p := o_p.below d
          replace o_q := o_q.below d
          replace o_c := o_c.below d
          replace o_x := o_x.below d
          replace o_y := o_y.below d
          replace hb := below_after hb d
          clear d
          clear o_x
          clear o_y
          clear l_x b_x
          go_wp2_with fail
          refine (icpl_any A_p _ c_p _ p w28 ((unhide l_p).arg o_p (by omega))).mono ?_
          rintro e w29 ⟨A_x, c_x, rfl, o_x, d⟩
          replace o_p := o_p.below d
          replace o_q := o_q.below d
          replace o_c := o_c.below d
          replace hb := below_after hb d
          clear d
          have l_x := hide (unhide C2).1
          have b_x := (unhide l_x).1
          have K := icpl_any A_x _ c_x _ (cplR p) w29 ((unhide l_x).arg o_x (by omega))
          rw [(unhide C2).2] at K
          have HK := hide K
          clear K
          go_wp2_with fail
          refine (unhide HK).mono ?_
          rintro e w30 ⟨A_y, c_y, rfl, o_y, d⟩
          replace o_p := o_p.below d
          replace o_q := o_q.below d
          replace o_c := o_c.below d
          replace o_x := o_x.below d
          replace hb := below_after hb d
          clear d
          clear HK
          go_wp2_with fail
          refine (samei_any _ _ _ _ _ _ _ _ _ _ o_y.reads o_p.reads (by omega)).mono ?_
          rintro e w31 ⟨rfl, d0⟩
          have d := d0.below w30.heap.size
          clear d0
          replace o_p := o_p.below d
          replace o_q := o_q.below d
          replace o_c := o_c.below d
          replace o_x := o_x.below d
          replace o_y := o_y.below d
          replace hb := below_after hb d
          clear d
          clear o_x
          clear o_y
          clear l_x b_x
          go_wp2
          go_ret
          exact ⟨rfl, hb⟩
        · clear HS
          go_wp2_with fail
          refine (has_any _ _ _ _ _ _ _ _ _ p w24 o_c ((unhide l_p).arg o_p (by omega)) (cls_lists p) (by omega) (unhide HIN)).mono ?_
          rintro e w25 ⟨rfl, d0⟩
          have d := d0.below w24.heap.size
          clear d0
          replace o_p := o_p.below d
          replace o_q := o_q.below d
          replace o_c := o_c.below d
          replace hb := below_after hb d
          clear d
          go_wp2_with fail
          refine (irev_any A_p _ c_p _ p w25 ((unhide l_p).arg o_p (by omega))).mono ?_
          rintro e w26 ⟨A_x, c_x, rfl, o_x, d⟩
          replace o_p := o_p.below d
          replace o_q := o_q.below d
          replace o_c := o_c.below d
          replace hb := below_after hb d
          clear d
          have l_x := hide (unhide R2).1
          have b_x := (unhide l_x).1
          have K := irev_any A_x _ c_x _ (revR p) w26 ((unhide l_x).arg o_x (by omega))
          rw [(unhide R2).2] at K
          have HK := hide K
          clear K
          go_wp2_with fail
          refine (unhide HK).mono ?_
          rintro e w27 ⟨A_y, c_y, rfl, o_y, d⟩
          replace o_p := o_p.below d
          replace o_q := o_q.below d
          replace o_c := o_c.below d
          replace o_x := o_x.below d
          replace hb := below_after hb d
          clear d
          clear HK
          go_wp2_with fail
          refine (samei_any _ _ _ _ _ _ _ _ _ _ o_y.reads o_p.reads (by omega)).mono ?_
          rintro e w28 ⟨rfl, d0⟩
          have d := d0.below w27.heap.size
          clear d0
          replace o_p := o_p.below d
          replace o_q := o_q.below d
          replace o_c := o_c.below d
          replace o_x := o_x.below d
          replace o_y := o_y.below d
          replace hb := below_after hb d
          clear d
          clear o_x
          clear o_y
          clear l_x b_x
          go_wp2_with fail
          refine (icpl_any A_p _ c_p _ p w28 ((unhide l_p).arg o_p (by omega))).mono ?_
          rintro e w29 ⟨A_x, c_x, rfl, o_x, d⟩
          replace o_p := o_p.below d
          replace o_q := o_q.below d
          replace o_c := o_c.below d
          replace hb := below_after hb d
          clear d
          have l_x := hide (unhide C2).1
          have b_x := (unhide l_x).1
          have K := icpl_any A_x _ c_x _ (cplR p) w29 ((unhide l_x).arg o_x (by omega))
          rw [(unhide C2).2] at K
          have HK := hide K
          clear K
          go_wp2_with fail
          refine (unhide HK).mono ?_
          rintro e w30 ⟨A_y, c_y, rfl, o_y, d⟩
          replace o_p := o_p.below d
          replace o_q := o_q.below d
          replace o_c := o_c.below d
          replace o_x := o_x.below d
          replace hb := below_after hb d
          clear d
          clear HK
          go_wp2_with fail
          refine (samei_any _ _ _ _ _ _ _ _ _ _ o_y.reads o_p.reads (by omega)).mono ?_
          rintro e w31 ⟨rfl, d0⟩
          have d := d0.below w30.heap.size
          clear d0
          replace o_p := o_p.below d
          replace o_q := o_q.below d
          replace o_c := o_c.below d
          replace o_x := o_x.below d
          replace o_y := o_y.below d
          replace hb := below_after hb d
          clear d
          clear o_x
          clear o_y
          clear l_x b_x
          go_wp2
          go_ret
          exact ⟨rfl, hb⟩
        · clear HS
          go_wp2_with fail
          refine (has_any _ _ _ _ _ _ _ _ _ p w24 o_c ((unhide l_p).arg o_p (by omega)) (cls_lists p) (by omega) (unhide HIN)).mono ?_
          rintro e w25 ⟨rfl, d0⟩
          have d := d0.below w24.heap.size
          clear d0
          replace o_p := o_p.below d
          replace o_q := o_q.below d
          replace o_c := o_c.below d
          replace hb := below_after hb d
          clear d
          go_wp2_with fail
          refine (irev_any A_p _ c_p _ p w25 ((unhide l_p).arg o_p (by omega))).mono ?_
          rintro e w26 ⟨A_x, c_x, rfl, o_x, d⟩
          replace o_p := o_p.below d
          replace o_q := o_q.below d
          replace o_c := o_c.below d
          replace hb := below_after hb d
          clear d
          have l_x := hide (unhide R2).1
          have b_x := (unhide l_x).1
          have K := irev_any A_x _ c_x _ (revR p) w26 ((unhide l_x).arg o_x (by omega))
          rw [(unhide R2).2] at K
          have HK := hide K
          clear K
          go_wp2_with fail
          refine (unhide HK).mono ?_
          rintro e w27 ⟨A_y, c_y, rfl, o_y, d⟩
          replace o_p := o_p.below d
          replace o_q := o_q.below d
          replace o_c := o_c.below d
          replace o_x := o_x.below d
          replace hb := below_after hb d
          clear d
          clear HK
          go_wp2_with fail
          refine (samei_any _ _ _ _ _ _ _ _ _ _ o_y.reads o_p.reads (by omega)).mono ?_
          rintro e w28 ⟨rfl, d0⟩
          have d := d0.below w27.heap.size
          clear d0
          replace o_p := o_p.below d
          replace o_q := o_q.below d
          replace o_c := o_c.below d
          replace o_x := o_x.below d
          replace o_y := o_y.below d
          replace hb := below_after hb d
          clear d
          clear o_x
          clear o_y
          clear l_x b_x
          go_wp2_with fail
          refine (icpl_any A_p _ c_p _ p w28 ((unhide l_p).arg o_p (by omega))).mono ?_
          rintro e w29 ⟨A_x, c_x, rfl, o_x, d⟩
          replace o_p := o_p.below d
          replace o_q := o_q.below d
          replace o_c := o_c.below d
          replace hb := below_after hb d
          clear d
          have l_x := hide (unhide C2).1
          have b_x := (unhide l_x).1
          have K := icpl_any A_x _ c_x _ (cplR p) w29 ((unhide l_x).arg o_x (by omega))
          rw [(unhide C2).2] at K
          have HK := hide K
          clear K
          go_wp2_with fail
          refine (unhide HK).mono ?_
          rintro e w30 ⟨A_y, c_y, rfl, o_y, d⟩
          replace o_p := o_p.below d
          replace o_q := o_q.below d
          replace o_c := o_c.below d
          replace o_x := o_x.below d
          replace hb := below_after hb d
          clear d
          clear HK
          go_wp2_with fail
          refine (samei_any _ _ _ _ _ _ _ _ _ _ o_y.reads o_p.reads (by omega)).mono ?_
          rintro e w31 ⟨rfl, d0⟩
          have d := d0.below w30.heap.size
          clear d0
          replace o_p := o_p.below d
          replace o_q := o_q.below d
          replace o_c := o_c.below d
          replace o_x := o_x.below d
          replace o_y := o_y.below d
          replace hb := below_after hb d
          clear d
          clear o_x
          clear o_y
          clear l_x b_x
          go_wp2
          go_ret
          exact ⟨rfl, hb⟩
        · clear HS
          go_wp2_with fail
          refine (has_any _ _ _ _ _ _ _ _ _ p w24 o_c ((unhide l_p).arg o_p (by omega)) (cls_lists p) (by omega) (unhide HIN)).mono ?_
          rintro e w25 ⟨rfl, d0⟩
          have d := d0.below w24.heap.size
          clear d0
          replace o_p := o_p.below d
          replace o_q := o_q.below d
          replace o_c := o_c.below d
          replace hb := below_after hb d
          clear d
          go_wp2_with fail
          refine (irev_any A_p _ c_p _ p w25 ((unhide l_p).arg o_p (by omega))).mono ?_
          rintro e w26 ⟨A_x, c_x, rfl, o_x, d⟩
          replace o_p := o_p.below d
          replace o_q := o_q.below d
          replace o_c := o_c.below d
          replace hb := below_after hb d
          clear d
          have l_x := hide (unhide R2).1
          have b_x := (unhide l_x).1
          have K := irev_any A_x _ c_x _ (revR p) w26 ((unhide l_x).arg o_x (by omega))
          rw [(unhide R2).2] at K
          have HK := hide K
          clear K
          go_wp2_with fail
          refine (unhide HK).mono ?_
          rintro e w27 ⟨A_y, c_y, rfl, o_y, d⟩
          replace o_p := o_p.below d
          replace o_q := o_q.below d
          replace o_c := o_c.below d
          replace o_x := o_x.below d
          replace hb := below_after hb d
          clear d
          clear HK
          go_wp2_with fail
          refine (samei_any _ _ _ _ _ _ _ _ _ _ o_y.reads o_p.reads (by omega)).mono ?_
          rintro e w28 ⟨rfl, d0⟩
          have d := d0.below w27.heap.size
          clear d0
          replace o_p := o_p.below d
          replace o_q := o_q.below d
          replace o_c := o_c.below d
          replace o_x := o_x.below d
          replace o_y := o_y.below d
          replace hb := below_after hb d
          clear d
          clear o_x
          clear o_y
          clear l_x b_x
          go_wp2_with fail
          refine (icpl_any A_p _ c_p _ p w28 ((unhide l_p).arg o_p (by omega))).mono ?_
          rintro e w29 ⟨A_x, c_x, rfl, o_x, d⟩
          replace o_p := o_p.below d
          replace o_q := o_q.below d
          replace o_c := o_c.below d
          replace hb := below_after hb d
          clear d
          have l_x := hide (unhide C2).1
          have b_x := (unhide l_x).1
          have K := icpl_any A_x _ c_x _ (cplR p) w29 ((unhide l_x).arg o_x (by omega))
          rw [(unhide C2).2] at K
          have HK := hide K
          clear K
          go_wp2_with fail
          refine (unhide HK).mono ?_
          rintro e w30 ⟨A_y, c_y, rfl, o_y, d⟩
          replace o_p := o_p.below d
          replace o_q := o_q.below d
          replace o_c := o_c.below d
          replace o_x := o_x.below d
          replace hb := below_after hb d
          clear d
          clear HK
          go_wp2_with fail
          refine (samei_any _ _ _ _ _ _ _ _ _ _ o_y.reads o_p.reads (by omega)).mono ?_
          rintro e w31 ⟨rfl, d0⟩
          have d := d0.below w30.heap.size
          clear d0
          replace o_p := o_p.below d
          replace o_q := o_q.below d
          replace o_c := o_c.below d
          replace o_x := o_x.below d
          replace o_y := o_y.below d
          replace hb := below_after hb d
          clear d
          clear o_x
          clear o_y
          clear l_x b_x
          go_wp2
          go_ret
          exact ⟨rfl, hb⟩
    | true =>
      have SI := hide (sym_in (unhide HF))
      have l_q := hide (symR_lite p k)
      have n_q := symR_le p k
      go_wp2_with fail
      refine (has_any _ _ _ _ _ _ _ _ _ (symR p k) w23 o_c ((unhide l_q).arg o_q (by omega)) (cls_lists p) (by have := clsR_len p; omega) (unhide SI).1).mono ?_
      rintro e w24 ⟨rfl, d0⟩
      have d := d0.below w23.heap.size
      clear d0
      replace o_p := o_p.below d
      replace o_q := o_q.below d
      replace o_c := o_c.below d
      replace hb := below_after hb d
      clear d
      have K := icls_any A_q _ c_q _ (symR p k) w24 ((unhide l_q).arg o_q (by omega))
      rw [(unhide SI).2] at K
      have HK := hide K
      clear K
      go_wp2_with fail
      refine (unhide HK).mono ?_
      rintro e w25 ⟨A_e, c_e, rfl, o_e, d⟩
      replace o_p := o_p.below d
      replace o_q := o_q.below d
      replace o_c := o_c.below d
      replace hb := below_after hb d
      clear d
      clear HK
      go_wp2_with fail
      refine (samess_any _ _ _ _ _ _ _ _ _ _ o_e o_c (by have := (clsR_small p).1; omega) (by have := (clsR_small p).2; omega)).mono ?_
      rintro e w26 ⟨rfl, d0⟩
      have d := d0.below w25.heap.size
      clear d0
      replace o_p := o_p.below d
      replace o_q := o_q.below d
      replace o_c := o_c.below d
      replace o_e := o_e.below d
      replace hb := below_after hb d
      clear d
      clear o_e
      clear o_q
      obtain ⟨hp, hhp⟩ : ∃ hp, isP p = hp := ⟨_, rfl⟩
      go_wp2_with fail
      refine (sisperm_any A_p _ c_p _ p hp hhp w26 ((unhide l_p).arg o_p (by omega)).reads ((unhide l_p).arg o_p (by omega)).le ((unhide l_p).arg o_p (by omega)).cap).mono ?_
      rintro e w27 ⟨rfl, d0⟩
      have d := d0.below w26.heap.size
      clear d0
      replace o_p := o_p.below d
      replace o_c := o_c.below d
      replace hb := below_after hb d
      clear d
      cases hp with
      | false =>
        have lc : (clsR p).length = 0 := by rw [clsR_no hhp]; rfl
        clear hhp
        go_wp2
        go_ret
        exact ⟨rfl, hb⟩
      | true =>
        have HS := hide (cls_size hhp)
        have HIN := hide (self_in hhp)
        have R2 := hide (rev2 hhp)
        have C2 := hide (cpl2 hhp)
        have hp8 := isP_le hhp
        clear hhp
        obtain ⟨ll, hll⟩ : ∃ ll, (clsR p).length = ll := ⟨_, rfl⟩
        rw [hll] at o_c HS ⊢
        clear hll
        rcases unhide HS with rfl | rfl | rfl | rfl
        · clear HS
          go_wp2_with fail
          refine (has_any _ _ _ _ _ _ _ _ _ p w27 o_c ((unhide l_p).arg o_p (by omega)) (cls_lists p) (by omega) (unhide HIN)).mono ?_
          rintro e w28 ⟨rfl, d0⟩
          have d := d0.below w27.heap.size
          clear d0
          replace o_p := o_p.below d
          replace o_c := o_c.below d
          replace hb := below_after hb d
          clear d
          go_wp2_with fail
          refine (irev_any A_p _ c_p _ p w28 ((unhide l_p).arg o_p (by omega))).mono ?_
          rintro e w29 ⟨A_x, c_x, rfl, o_x, d⟩
          replace o_p := o_p.below d
          replace o_c := o_c.below d
          replace hb := below_after hb d
          clear d
          have l_x := hide (unhide R2).1
          have b_x := (unhide l_x).1
          have K := irev_any A_x _ c_x _ (revR p) w29 ((unhide l_x).arg o_x (by omega))
          rw [(unhide R2).2] at K
          have HK := hide K
          clear K
          go_wp2_with fail
          refine (unhide HK).mono ?_
          rintro e w30 ⟨A_y, c_y, rfl, o_y, d⟩
          replace o_p := o_p.below d
          replace o_c := o_c.below d
          replace o_x := o_x.below d
          replace hb := below_after hb d
          clear d
          clear HK
          go_wp2_with fail
          refine (samei_any _ _ _ _ _ _ _ _ _ _ o_y.reads o_p.reads (by omega)).mono ?_
          rintro e w31 ⟨rfl, d0⟩
          have d := d0.below w30.heap.size
          clear d0
          replace o_p := o_p.below d
          replace o_c := o_c.below d
          replace o_x := o_x.below d
          replace o_y := o_y.below d
          replace hb := below_after hb d
          clear d
          clear o_x
          clear o_y
          clear l_x b_x
          go_wp2_with fail
          refine (icpl_any A_p _ c_p _ p w31 ((unhide l_p).arg o_p (by omega))).mono ?_
          rintro e w32 ⟨A_x, c_x, rfl, o_x, d⟩
          replace o_p := o_p.below d
          replace o_c := o_c.below d
          replace hb := below_after hb d
          clear d
          have l_x := hide (unhide C2).1
          have b_x := (unhide l_x).1
          have K := icpl_any A_x _ c_x _ (cplR p) w32 ((unhide l_x).arg o_x (by omega))
          rw [(unhide C2).2] at K
          have HK := hide K
          clear K
          go_wp2_with fail
          refine (unhide HK).mono ?_
          rintro e w33 ⟨A_y, c_y, rfl, o_y, d⟩
          replace o_p := o_p.below d
          replace o_c := o_c.below d
          replace o_x := o_x.below d
          replace hb := below_after hb d
          clear d
          clear HK
          go_wp2_with fail
          refine (samei_any _ _ _ _ _ _ _ _ _ _ o_y.reads o_p.reads (by omega)).mono ?_
          rintro e w34 ⟨rfl, d0⟩
          have d := d0.below w33.heap.size
          clear d0
          replace o_p := o_p.below d
          replace o_c := o_c.below d
          replace o_x := o_x.below d
          replace o_y := o_y.below d
          replace hb := below_after hb d
          clear d
          clear o_x
          clear o_y
          clear l_x b_x
          go_wp2
          go_ret
          exact ⟨rfl, hb⟩
        · clear HS
          go_wp2_with fail
          refine (has_any _ _ _ _ _ _ _ _ _ p w27 o_c ((unhide l_p).arg o_p (by omega)) (cls_lists p) (by omega) (unhide HIN)).mono ?_
          rintro e w28 ⟨rfl, d0⟩
          have d := d0.below w27.heap.size
          clear d0
          replace o_p := o_p.below d
          replace o_c := o_c.below d
          replace hb := below_after hb d
          clear d
          go_wp2_with fail
          refine (irev_any A_p _ c_p _ p w28 ((unhide l_p).arg o_p (by omega))).mono ?_
          rintro e w29 ⟨A_x, c_x, rfl, o_x, d⟩
          replace o_p := o_p.below d
          replace o_c := o_c.below d
          replace hb := below_after hb d
          clear d
          have l_x := hide (unhide R2).1
          have b_x := (unhide l_x).1
          have K := irev_any A_x _ c_x _ (revR p) w29 ((unhide l_x).arg o_x (by omega))
          rw [(unhide R2).2] at K
          have HK := hide K
          clear K
          go_wp2_with fail
          refine (unhide HK).mono ?_
          rintro e w30 ⟨A_y, c_y, rfl, o_y, d⟩
          replace o_p := o_p.below d
          replace o_c := o_c.below d
          replace o_x := o_x.below d
          replace hb := below_after hb d
          clear d
          clear HK
          go_wp2_with fail
          refine (samei_any _ _ _ _ _ _ _ _ _ _ o_y.reads o_p.reads (by omega)).mono ?_
          rintro e w31 ⟨rfl, d0⟩
          have d := d0.below w30.heap.size
          clear d0
          replace o_p := o_p.below d
          replace o_c := o_c.below d
          replace o_x := o_x.below d
          replace o_y := o_y.below d
          replace hb := below_after hb d
          clear d
          clear o_x
          clear o_y
          clear l_x b_x
          go_wp2_with fail
          refine (icpl_any A_p _ c_p _ p w31 ((unhide l_p).arg o_p (by omega))).mono ?_
          rintro e w32 ⟨A_x, c_x, rfl, o_x, d⟩
          replace o_p := o_p.below d
          replace o_c := o_c.below d
          replace hb := below_after hb d
          clear d
          have l_x := hide (unhide C2).1
          have b_x := (unhide l_x).1
          have K := icpl_any A_x _ c_x _ (cplR p) w32 ((unhide l_x).arg o_x (by omega))
          rw [(unhide C2).2] at K
          have HK := hide K
          clear K
          go_wp2_with fail
          refine (unhide HK).mono ?_
          rintro e w33 ⟨A_y, c_y, rfl, o_y, d⟩
          replace o_p := o_p.below d
          replace o_c := o_c.below d
          replace o_x := o_x.below d
          replace hb := below_after hb d
          clear d
          clear HK
          go_wp2_with fail
          refine (samei_any _ _ _ _ _ _ _ _ _ _ o_y.reads o_p.reads (by omega)).mono ?_
          rintro e w34 ⟨rfl, d0⟩
          have d := d0.below w33.heap.size
          clear d0
          replace o_p := o_p.below d
          replace o_c := o_c.below d
          replace o_x := o_x.below d
          replace o_y := o_y.below d
          replace hb := below_after hb d
          clear d
          clear o_x
          clear o_y
          clear l_x b_x
          go_wp2
          go_ret
          exact ⟨rfl, hb⟩
        · clear HS
          go_wp2_with fail
          refine (has_any _ _ _ _ _ _ _ _ _ p w27 o_c ((unhide l_p).arg o_p (by omega)) (cls_lists p) (by omega) (unhide HIN)).mono ?_
          rintro e w28 ⟨rfl, d0⟩
          have d := d0.below w27.heap.size
          clear d0
          replace o_p := o_p.below d
          replace o_c := o_c.below d
          replace hb := below_after hb d
          clear d
          go_wp2_with fail
          refine (irev_any A_p _ c_p _ p w28 ((unhide l_p).arg o_p (by omega))).mono ?_
          rintro e w29 ⟨A_x, c_x, rfl, o_x, d⟩
          replace o_p := o_p.below d
          replace o_c := o_c.below d
          replace hb := below_after hb d
          clear d
          have l_x := hide (unhide R2).1
          have b_x := (unhide l_x).1
          have K := irev_any A_x _ c_x _ (revR p) w29 ((unhide l_x).arg o_x (by omega))
          rw [(unhide R2).2] at K
          have HK := hide K
          clear K
          go_wp2_with fail
          refine (unhide HK).mono ?_
          rintro e w30 ⟨A_y, c_y, rfl, o_y, d⟩
          replace o_p := o_p.below d
          replace o_c := o_c.below d
          replace o_x := o_x.below d
          replace hb := below_after hb d
          clear d
          clear HK
          go_wp2_with fail
          refine (samei_any _ _ _ _ _ _ _ _ _ _ o_y.reads o_p.reads (by omega)).mono ?_
          rintro e w31 ⟨rfl, d0⟩
          have d := d0.below w30.heap.size
          clear d0
          replace o_p := o_p.below d
          replace o_c := o_c.below d
          replace o_x := o_x.below d
          replace o_y := o_y.below d
          replace hb := below_after hb d
          clear d
          clear o_x
          clear o_y
          clear l_x b_x
          go_wp2_with fail
          refine (icpl_any A_p _ c_p _ p w31 ((unhide l_p).arg o_p (by omega))).mono ?_
          rintro e w32 ⟨A_x, c_x, rfl, o_x, d⟩
          replace o_p := o_p.below d
          replace o_c := o_c.below d
          replace hb := below_after hb d
          clear d
          have l_x := hide (unhide C2).1
          have b_x := (unhide l_x).1
          have K := icpl_any A_x _ c_x _ (cplR p) w32 ((unhide l_x).arg o_x (by omega))
          rw [(unhide C2).2] at K
          have HK := hide K
          clear K
          go_wp2_with fail
          refine (unhide HK).mono ?_
          rintro e w33 ⟨A_y, c_y, rfl, o_y, d⟩
          replace o_p := o_p.below d
          replace o_c := o_c.below d
          replace o_x := o_x.below d
          replace hb := below_after hb d
          clear d
          clear HK
          go_wp2_with fail
          refine (samei_any _ _ _ _ _ _ _ _ _ _ o_y.reads o_p.reads (by omega)).mono ?_
          rintro e w34 ⟨rfl, d0⟩
          have d := d0.below w33.heap.size
          clear d0
          replace o_p := o_p.below d
          replace o_c := o_c.below d
          replace o_x := o_x.below d
          replace o_y := o_y.below d
          replace hb := below_after hb d
          clear d
          clear o_x
          clear o_y
          clear l_x b_x
          go_wp2
          go_ret
          exact ⟨rfl, hb⟩
        · clear HS
          go_wp2_with fail
          refine (has_any _ _ _ _ _ _ _ _ _ p w27 o_c ((unhide l_p).arg o_p (by omega)) (cls_lists p) (by omega) (unhide HIN)).mono ?_
          rintro e w28 ⟨rfl, d0⟩
          have d := d0.below w27.heap.size
          clear d0
          replace o_p := o_p.below d
          replace o_c := o_c.below d
          replace hb := below_after hb d
          clear d
          go_wp2_with fail
          refine (irev_any A_p _ c_p _ p w28 ((unhide l_p).arg o_p (by omega))).mono ?_
          rintro e w29 ⟨A_x, c_x, rfl, o_x, d⟩
          replace o_p := o_p.below d
          replace o_c := o_c.below d
          replace hb := below_after hb d
          clear d
          have l_x := hide (unhide R2).1
          have b_x := (unhide l_x).1
          have K := irev_any A_x _ c_x _ (revR p) w29 ((unhide l_x).arg o_x (by omega))
          rw [(unhide R2).2] at K
          have HK := hide K
          clear K
          go_wp2_with fail
          refine (unhide HK).mono ?_
          rintro e w30 ⟨A_y, c_y, rfl, o_y, d⟩
          replace o_p := o_p.below d
          replace o_c := o_c.below d
          replace o_x := o_x.below d
          replace hb := below_after hb d
          clear d
          clear HK
          go_wp2_with fail
          refine (samei_any _ _ _ _ _ _ _ _ _ _ o_y.reads o_p.reads (by omega)).mono ?_
          rintro e w31 ⟨rfl, d0⟩
          have d := d0.below w30.heap.size
          clear d0
          replace o_p := o_p.below d
          replace o_c := o_c.below d
          replace o_x := o_x.below d
          replace o_y := o_y.below d
          replace hb := below_after hb d
          clear d
          clear o_x
          clear o_y
          clear l_x b_x
          go_wp2_with fail
          refine (icpl_any A_p _ c_p _ p w31 ((unhide l_p).arg o_p (by omega))).mono ?_
          rintro e w32 ⟨A_x, c_x, rfl, o_x, d⟩
          replace o_p := o_p.below d
          replace o_c := o_c.below d
          replace hb := below_after hb d
          clear d
          have l_x := hide (unhide C2).1
          have b_x := (unhide l_x).1
          have K := icpl_any A_x _ c_x _ (cplR p) w32 ((unhide l_x).arg o_x (by omega))
          rw [(unhide C2).2] at K
          have HK := hide K
          clear K
          go_wp2_with fail
          refine (unhide HK).mono ?_
          rintro e w33 ⟨A_y, c_y, rfl, o_y, d⟩
          replace o_p := o_p.below d
          replace o_c := o_c.below d
          replace o_x := o_x.below d
          replace hb := below_after hb d
          clear d
          clear HK
          go_wp2_with fail
          refine (samei_any _ _ _ _ _ _ _ _ _ _ o_y.reads o_p.reads (by omega)).mono ?_
          rintro e w34 ⟨rfl, d0⟩
          have d := d0.below w33.heap.size
          clear d0
          replace o_p := o_p.below d
          replace o_c := o_c.below d
          replace o_x := o_x.below d
          replace o_y := o_y.below d
          replace hb := below_after hb d
          clear d
          clear o_x
          clear o_y
          clear l_x b_x
          go_wp2
          go_ret
          exact ⟨rfl, hb⟩
  · rw [show decide (1048576 < n) = true from decide_eq_true (by omega)] at HG
    clear hr hn
    go_enter Try.func4, Try.ntmps4
    go_wp2_with fail
    refine (unhide HG).mono ?_
    rintro e w0 ⟨rfl, rfl⟩
    go_wp2
    go_ret
    exact ⟨rfl, Below.refl _ _⟩
theorem params_ok : ∀ t ∈ (#[22] : Array TypeId).toList, Try.prog.readableRec t = true ∧ t < Try.prog.types.size := by
  intro t ht
  simp only [List.mem_cons, List.not_mem_nil, or_false] at ht
  subst ht
  exact ⟨by kernel_rfl, of_decide_eq_true (by kernel_rfl)⟩

set_option maxRecDepth 100000 in
/-- WHAT THE WALK GIVES, FOR EVERY ARGUMENT. -/
theorem contract (H : Type) (enc : TypeId × Value → H) (W : World) (base : Nat) (args : Array Value) (ds gs : List (DataW H)) (before : List MemPlace)
    (hval : ∀ (j : Nat) t v, Try.f4.params[j]? = some t → args[j]? = some v → Value.okWide Try.prog W .any base t v)
    (hW : DataW.Whole enc Try.prog Try.f4.params.toList Rows.fnSymmetriesSpec.vars false W args.toList ds gs before) :
    Calls Try.prog 4 args W fun e W' => ∃ v, e = .returned v ∧ Rows.fnSymmetriesSpec.post enc Try.prog Try.f4 false true false false W args v W' := by
  have hW' := hW
  obtain ⟨p, q, hA0, hV, rfl, hfz, hnd⟩ := hW
  have hA : DataW.TrodAll enc Try.prog W 0 (fun _ => true) true Try.f4.params.toList args.toList ds p := hA0
  rw [Try.params4] at hA hval
  obtain ⟨v0, d0, rfl, rfl, h0⟩ := trodAll_one hA
  obtain ⟨rfl, rfl⟩ := trodVars_none hV
  obtain ⟨Abs, nbs, cbs, bs, rfl, hrbs, hnbs⟩ := open_bytes_reads Try.underlying22 Try.underlying5 cellsByte (hval 0 22 v0 rfl rfl) h0 (fun x hx => by simpa using hW'.lt x (by simp [hx]))
  refine (walk Abs nbs cbs bs W hrbs hnbs).mono fun e W' ⟨he, hb⟩ => ?_
  subst he
  exact ⟨_, rfl, law_end laidOut (by rw [Try.params4]; exact params_ok) Try.underlying4 rfl rfl hW' rfl hb⟩

set_option maxRecDepth 100000 in
theorem lifted (os : Os) (started : os.Started) (H : Type) (enc : TypeId × Value → H) :
    ReturnsInHanded {} Try.checked os 4 .any (Rows.fnSymmetriesSpec.pre6 enc Try.prog Try.f4 Rows.fnSymmetriesRow.domain false) (Rows.fnSymmetriesSpec.post enc Try.prog Try.f4 false true false false) := by
  refine returnsInHanded_of_change (C := Try.checked) own started (by kernel_rfl) Try.func4
    (ChangeSpec.witness6 (enc := enc) (C := Try.checked) false ⟨#[], #[.slice none 0 0], []⟩ 8 (by kernel_rfl) (by kernel_rfl) (by kernel_rfl) (by kernel_rfl)) ?_
  intro W base args ds gs before hval hW _ _
  exact contract H enc W base args ds gs before hval hW

theorem proved : Rows.FnSymmetriesSaid :=
  OpenClaim.holds_of_wide 4 Try.f4 rfl rfl rfl rfl rfl rfl rfl ⟨rfl, rfl, rfl, rfl, rfl⟩ rfl rfl rfl rfl rfl (by kernel_rfl) Try.func4 (by kernel_rfl)
    (of_decide_eq_true (by kernel_rfl)) (by unfold Func.isWrapper; first | (rw [if_pos (by decide +kernel)]; kernel_rfl) | (rw [if_neg (by decide +kernel)]; exact ⟨rfl, rfl⟩))
    (fun os started H enc _ => lifted os started H enc)
end Go.Proofs.Ytkjjjnkgkgdfkaa.fnSymmetries
