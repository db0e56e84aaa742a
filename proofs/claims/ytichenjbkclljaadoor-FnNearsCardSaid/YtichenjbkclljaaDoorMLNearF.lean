/-
  For every code the law FnNears answers true and leaves its argument as it was: neighboring patterns are fewer than patterns, and are reversed with the permutation.
  Conditions: the variables of Go's library that the row lists hold what the program's text lays (the card ties that).
-/
import Derived.Test.YtichenjbkclljaaDoorB7
import Derived.Test.YtichenjbkclljaaDoorB8
import Derived.Test.YtichenjbkclljaaDoorB9
import Derived.Test.YtichenjbkclljaaDoorB10
import Derived.Test.YtichenjbkclljaaDoorB6
import Derived.Test.YtichenjbkclljaaDoorB4
import Derived.Deep.RegionHeld3












namespace Go.Proofs.YtichenjbkclljaaDoor.fnNears
set_option maxRecDepth 100000
open Go.ChangeShapes Go.WideShapes Go.ChangeAt Go.RowKit

theorem keep14 {wr w : World} {p0 : Addr} {v0 : Value} {p1 : Addr} {v1 : Value} {p2 : Addr} {v2 : Value} {p3 : Addr} {v3 : Value} {p4 : Addr} {v4 : Value} {p5 : Addr} {v5 : Value} {p6 : Addr} {v6 : Value} {p7 : Addr} {v7 : Value} {p8 : Addr} {v8 : Value} {p9 : Addr} {v9 : Value} {p10 : Addr} {v10 : Value} {p11 : Addr} {v11 : Value} {p12 : Addr} {v12 : Value} {p13 : Addr} {v13 : Value} (h0 : wr.cell? p0 = some v0) (h1 : wr.cell? p1 = some v1) (h2 : wr.cell? p2 = some v2) (h3 : wr.cell? p3 = some v3) (h4 : wr.cell? p4 = some v4) (h5 : wr.cell? p5 = some v5) (h6 : wr.cell? p6 = some v6) (h7 : wr.cell? p7 = some v7) (h8 : wr.cell? p8 = some v8) (h9 : wr.cell? p9 = some v9) (h10 : wr.cell? p10 = some v10) (h11 : wr.cell? p11 = some v11) (h12 : wr.cell? p12 = some v12) (h13 : wr.cell? p13 = some v13) (l0 : p0.block < wr.heap.size) (l1 : p1.block < wr.heap.size) (l2 : p2.block < wr.heap.size) (l3 : p3.block < wr.heap.size) (l4 : p4.block < wr.heap.size) (l5 : p5.block < wr.heap.size) (l6 : p6.block < wr.heap.size) (l7 : p7.block < wr.heap.size) (l8 : p8.block < wr.heap.size) (l9 : p9.block < wr.heap.size) (l10 : p10.block < wr.heap.size) (l11 : p11.block < wr.heap.size) (l12 : p12.block < wr.heap.size) (l13 : p13.block < wr.heap.size) (hb : Below wr.heap.size wr w) : w.cell? p0 = some v0 ∧ w.cell? p1 = some v1 ∧ w.cell? p2 = some v2 ∧ w.cell? p3 = some v3 ∧ w.cell? p4 = some v4 ∧ w.cell? p5 = some v5 ∧ w.cell? p6 = some v6 ∧ w.cell? p7 = some v7 ∧ w.cell? p8 = some v8 ∧ w.cell? p9 = some v9 ∧ w.cell? p10 = some v10 ∧ w.cell? p11 = some v11 ∧ w.cell? p12 = some v12 ∧ w.cell? p13 = some v13 ∧ Below wr.heap.size wr w :=
  ⟨(hb.cell l0).trans h0, (hb.cell l1).trans h1, (hb.cell l2).trans h2, (hb.cell l3).trans h3, (hb.cell l4).trans h4, (hb.cell l5).trans h5, (hb.cell l6).trans h6, (hb.cell l7).trans h7, (hb.cell l8).trans h8, (hb.cell l9).trans h9, (hb.cell l10).trans h10, (hb.cell l11).trans h11, (hb.cell l12).trans h12, (hb.cell l13).trans h13, hb⟩
theorem keep6 {wr w : World} {p0 : Addr} {v0 : Value} {p1 : Addr} {v1 : Value} {p2 : Addr} {v2 : Value} {p3 : Addr} {v3 : Value} {p4 : Addr} {v4 : Value} {p5 : Addr} {v5 : Value} (h0 : wr.cell? p0 = some v0) (h1 : wr.cell? p1 = some v1) (h2 : wr.cell? p2 = some v2) (h3 : wr.cell? p3 = some v3) (h4 : wr.cell? p4 = some v4) (h5 : wr.cell? p5 = some v5) (l0 : p0.block < wr.heap.size) (l1 : p1.block < wr.heap.size) (l2 : p2.block < wr.heap.size) (l3 : p3.block < wr.heap.size) (l4 : p4.block < wr.heap.size) (l5 : p5.block < wr.heap.size) (hb : Below wr.heap.size wr w) : w.cell? p0 = some v0 ∧ w.cell? p1 = some v1 ∧ w.cell? p2 = some v2 ∧ w.cell? p3 = some v3 ∧ w.cell? p4 = some v4 ∧ w.cell? p5 = some v5 ∧ Below wr.heap.size wr w :=
  ⟨(hb.cell l0).trans h0, (hb.cell l1).trans h1, (hb.cell l2).trans h2, (hb.cell l3).trans h3, (hb.cell l4).trans h4, (hb.cell l5).trans h5, hb⟩
theorem arg_none (w : World) : Arg w 0 none 0 0 [] := ⟨Reads.none_, Nat.zero_le _, Nat.zero_le _, Nat.le_refl _, small_nil, fun _ => rfl⟩
set_option maxRecDepth 100000 in
set_option maxHeartbeats 25600000 in
theorem walk (A : Option Addr) (n c : Nat) (bs : List UInt8) (m : Int) (w : World) (hr : Reads w w.heap.size A n (u8s bs)) (hn : n ≤ maxLen) (hm : w.cell? ⟨0, 0, none⟩ = some (.int .i64 m)) :
    Calls Tryd.prog 3 #[.slice A n c] w fun e w' => e = .returned (.bool true) ∧ Below w.heap.size w w' := by
  unfold maxLen at hn
  have HG := hide (big_any A n c hn w)
  have hmb : 0 < w.heap.size := World.block_lt_of_cell? w _ hm
  have HM := hide (fun w' (hb : Below w.heap.size w w') => (hb.cell (p := ⟨0, 0, none⟩) hmb).trans hm)
  clear hm hmb
  by_cases hbig : n ≤ 1048576
  · rw [show decide (1048576 < n) = false from decide_eq_false (by omega)] at HG
    go_enter Tryd.func3, Tryd.ntmps3
    go_wp2_with fail
    refine (unhide HG).mono ?_
    rintro e w0 ⟨rfl, rfl⟩
    clear HG
    have hb := Below.refl w.heap.size w
    go_wp2_with fail
    refine (dcntn_any A n c w.heap.size bs w (hr.below hb) hbig hb.size).mono ?_
    rintro e w1 ⟨A_p, c_p, p, A_x, c_x, P_x, d_x, q, J, rfl, l_p, l_q, l_J, o_p, o_x, d⟩
    replace hb := below_after hb d
    clear d
    replace l_p := hide l_p
    replace l_q := hide l_q
    replace l_J := hide l_J
    obtain ⟨z, hz⟩ : ∃ z, z = numNear p q J := ⟨_, rfl⟩
    obtain ⟨ok, hok⟩ : ∃ ok, ok = nearOK q J := ⟨_, rfl⟩
    obtain ⟨T, hT⟩ : ∃ T, T = ntext q J := ⟨_, rfl⟩
    have HZ := hide hz
    have HOK := hide hok
    have HT := hide hT
    clear hz hok hT
    go_wp2_with fail
    obtain ⟨w2, hw⟩ : ∃ W : World, W = w1.alloc (.cells #[.slice A_x (q).length c_x, .slice P_x (J).length d_x] 26) := ⟨_, rfl⟩
    rw [← hw]
    have d : Below w1.heap.size w1 w2 := by rw [hw]; exact (Below.refl _ _).alloc (Nat.le_refl _) _
    obtain ⟨b_x, hbl⟩ : ∃ b, b = w1.heap.size := ⟨_, rfl⟩
    have k_x : Whole w2 b_x 26 #[.slice A_x (q).length c_x, .slice P_x (J).length d_x] := by rw [hw, hbl]; exact Whole.new _ _ _
    rw [← hbl]
    clear hw hbl
    replace o_p := o_p.below d
    replace o_x := o_x.below d
    replace hb := below_after hb d
    clear d
    have H1 := hide (icntn_any A_p A_x P_x _ c_p _ _ c_x _ _ d_x _ p q J w2 ((unhide l_p).arg o_p (by omega)) ((unhide l_q).arg o_x.p (by omega)) ((unhide l_J).arg o_x.j (by omega)))
    rw [← unhide HZ] at H1
    refine (unhide H1).mono ?_
    rintro e w3 ⟨rfl, d⟩
    replace o_p := o_p.below d
    replace o_x := o_x.below d
    replace k_x := k_x.below d k_x.lt
    replace hb := below_after hb d
    clear d
    clear H1
    go_wp2_with fail
    refine (dparn_any A n c w.heap.size bs w3 (hr.below hb) hbig hb.size).mono ?_
    rintro e w4 ⟨t, rfl, n_t, d⟩
    replace o_p := o_p.below d
    replace o_x := o_x.below d
    replace k_x := k_x.below d k_x.lt
    replace hb := below_after hb d
    clear d
    go_wp2_with fail
    refine (ipar_any t (by omega) m w4 (unhide HM _ hb)).mono ?_
    rintro e w5 ⟨A_a, c_a, P_a, d_a, rfl, o_a, d⟩
    replace o_p := o_p.below d
    replace o_x := o_x.below d
    replace k_x := k_x.below d k_x.lt
    replace hb := below_after hb d
    clear d
    go_wp2_with fail
    obtain ⟨w6, hw⟩ : ∃ W : World, W = w5.alloc (.cells #[.slice A_a (parQ t).length c_a, .slice P_a (parN t).length d_a] 26) := ⟨_, rfl⟩
    rw [← hw]
    have d : Below w5.heap.size w5 w6 := by rw [hw]; exact (Below.refl _ _).alloc (Nat.le_refl _) _
    obtain ⟨b_a, hbl⟩ : ∃ b, b = w5.heap.size := ⟨_, rfl⟩
    have k_a : Whole w6 b_a 26 #[.slice A_a (parQ t).length c_a, .slice P_a (parN t).length d_a] := by rw [hw, hbl]; exact Whole.new _ _ _
    rw [← hbl]
    clear hw hbl
    replace o_p := o_p.below d
    replace o_x := o_x.below d
    replace o_a := o_a.below d
    replace k_x := k_x.below d k_x.lt
    replace hb := below_after hb d
    clear d
    refine (spar_any t (by omega) w6).mono ?_
    rintro e w7 ⟨A_b, c_b, P_b, d_b, rfl, o_b, d⟩
    replace o_p := o_p.below d
    replace o_x := o_x.below d
    replace o_a := o_a.below d
    replace k_x := k_x.below d k_x.lt
    replace k_a := k_a.below d k_a.lt
    replace hb := below_after hb d
    clear d
    have q0_x := k_x.cell 0
    have q1_x := k_x.cell 1
    have q2_x := k_x.lt
    simp only [List.getElem?_toArray, List.getElem?_cons_zero, List.getElem?_cons_succ] at q0_x q1_x
    go_wp2_with fail
    clear q0_x q1_x q2_x
    obtain ⟨w8, hw⟩ : ∃ W : World, W = w7.alloc (.cells #[.slice A_b (parQ t).length c_b, .slice P_b (parN t).length d_b] 26) := ⟨_, rfl⟩
    rw [← hw]
    have d : Below w7.heap.size w7 w8 := by rw [hw]; exact (Below.refl _ _).alloc (Nat.le_refl _) _
    obtain ⟨b_b, hbl⟩ : ∃ b, b = w7.heap.size := ⟨_, rfl⟩
    have k_b : Whole w8 b_b 26 #[.slice A_b (parQ t).length c_b, .slice P_b (parN t).length d_b] := by rw [hw, hbl]; exact Whole.new _ _ _
    rw [← hbl]
    clear hw hbl
    replace o_p := o_p.below d
    replace o_x := o_x.below d
    replace o_a := o_a.below d
    replace o_b := o_b.below d
    replace k_x := k_x.below d k_x.lt
    replace k_a := k_a.below d k_a.lt
    replace hb := below_after hb d
    clear d
    have H1 := hide (irevn_any A_x P_x _ c_x _ _ d_x _ q J w8 ((unhide l_q).arg o_x.p (by omega)) ((unhide l_J).arg o_x.j (by omega)))
    rw [← unhide HOK] at H1
    refine (unhide H1).mono ?_
    rintro e w9 ⟨A_r, c_r, P_r, d_r, rfl, o_r, d⟩
    replace o_p := o_p.below d
    replace o_x := o_x.below d
    replace o_a := o_a.below d
    replace o_b := o_b.below d
    replace k_x := k_x.below d k_x.lt
    replace k_a := k_a.below d k_a.lt
    replace k_b := k_b.below d k_b.lt
    replace hb := below_after hb d
    clear d
    have q0_x := k_x.cell 0
    have q1_x := k_x.cell 1
    have q2_x := k_x.lt
    simp only [List.getElem?_toArray, List.getElem?_cons_zero, List.getElem?_cons_succ] at q0_x q1_x
    go_wp2_with fail
    clear q0_x q1_x q2_x
    obtain ⟨w10, hw⟩ : ∃ W : World, W = w9.alloc (.cells #[.slice A_r (revQ q J).length c_r, .slice P_r (revJJ q J).length d_r] 26) := ⟨_, rfl⟩
    rw [← hw]
    have d : Below w9.heap.size w9 w10 := by rw [hw]; exact (Below.refl _ _).alloc (Nat.le_refl _) _
    obtain ⟨b_r, hbl⟩ : ∃ b, b = w9.heap.size := ⟨_, rfl⟩
    have k_r : Whole w10 b_r 26 #[.slice A_r (revQ q J).length c_r, .slice P_r (revJJ q J).length d_r] := by rw [hw, hbl]; exact Whole.new _ _ _
    rw [← hbl]
    clear hw hbl
    replace o_p := o_p.below d
    replace o_x := o_x.below d
    replace o_a := o_a.below d
    replace o_b := o_b.below d
    replace o_r := o_r.below d
    replace k_x := k_x.below d k_x.lt
    replace k_a := k_a.below d k_a.lt
    replace k_b := k_b.below d k_b.lt
    replace hb := below_after hb d
    clear d
    clear H1
    have H1 := hide (srevn_any A_x P_x _ c_x _ _ d_x _ q J w10 ((unhide l_q).arg o_x.p (by omega)) ((unhide l_J).arg o_x.j (by omega)))
    rw [← unhide HOK] at H1
    refine (unhide H1).mono ?_
    rintro e w11 ⟨A_s, c_s, P_s, d_s, rfl, o_s, d⟩
    replace o_p := o_p.below d
    replace o_x := o_x.below d
    replace o_a := o_a.below d
    replace o_b := o_b.below d
    replace o_r := o_r.below d
    replace k_x := k_x.below d k_x.lt
    replace k_a := k_a.below d k_a.lt
    replace k_b := k_b.below d k_b.lt
    replace k_r := k_r.below d k_r.lt
    replace hb := below_after hb d
    clear d
    go_wp2_with fail
    obtain ⟨w12, hw⟩ : ∃ W : World, W = w11.alloc (.cells #[.slice A_s (revQ q J).length c_s, .slice P_s (revJJ q J).length d_s] 26) := ⟨_, rfl⟩
    rw [← hw]
    have d : Below w11.heap.size w11 w12 := by rw [hw]; exact (Below.refl _ _).alloc (Nat.le_refl _) _
    obtain ⟨b_s, hbl⟩ : ∃ b, b = w11.heap.size := ⟨_, rfl⟩
    have k_s : Whole w12 b_s 26 #[.slice A_s (revQ q J).length c_s, .slice P_s (revJJ q J).length d_s] := by rw [hw, hbl]; exact Whole.new _ _ _
    rw [← hbl]
    clear hw hbl
    replace o_p := o_p.below d
    replace o_x := o_x.below d
    replace o_a := o_a.below d
    replace o_b := o_b.below d
    replace o_r := o_r.below d
    replace o_s := o_s.below d
    replace k_x := k_x.below d k_x.lt
    replace k_a := k_a.below d k_a.lt
    replace k_b := k_b.below d k_b.lt
    replace k_r := k_r.below d k_r.lt
    replace hb := below_after hb d
    clear d
    clear H1
    refine (dcon_any A n c w.heap.size bs w12 (hr.below hb) hbig hb.size).mono ?_
    rintro e w13 ⟨A_y, c_y, y, rfl, l_y, o_y, d⟩
    replace o_p := o_p.below d
    replace o_x := o_x.below d
    replace o_a := o_a.below d
    replace o_b := o_b.below d
    replace o_r := o_r.below d
    replace o_s := o_s.below d
    replace k_x := k_x.below d k_x.lt
    replace k_a := k_a.below d k_a.lt
    replace k_b := k_b.below d k_b.lt
    replace k_r := k_r.below d k_r.lt
    replace k_s := k_s.below d k_s.lt
    replace hb := below_after hb d
    clear d
    replace l_y := hide l_y
    obtain ⟨five, hfive⟩ : ∃ b, b = isP y := ⟨_, rfl⟩
    have HF := hide hfive
    clear hfive
    have H1 := hide (iconn_any A_y _ c_y _ y w13 ((unhide l_y).arg o_y (by omega)))
    rw [← unhide HF] at H1
    go_wp2_with fail
    refine (unhide H1).mono ?_
    rintro e w14 ⟨A_c, c_c, P_c, d_c, rfl, o_c, d⟩
    replace o_p := o_p.below d
    replace o_y := o_y.below d
    replace o_x := o_x.below d
    replace o_a := o_a.below d
    replace o_b := o_b.below d
    replace o_r := o_r.below d
    replace o_s := o_s.below d
    replace k_x := k_x.below d k_x.lt
    replace k_a := k_a.below d k_a.lt
    replace k_b := k_b.below d k_b.lt
    replace k_r := k_r.below d k_r.lt
    replace k_s := k_s.below d k_s.lt
    replace hb := below_after hb d
    clear d
    go_wp2_with fail
    obtain ⟨w15, hw⟩ : ∃ W : World, W = w14.alloc (.cells #[.slice A_c (conQ y).length c_c, .slice P_c (conR y).length d_c] 26) := ⟨_, rfl⟩
    rw [← hw]
    have d : Below w14.heap.size w14 w15 := by rw [hw]; exact (Below.refl _ _).alloc (Nat.le_refl _) _
    obtain ⟨b_c, hbl⟩ : ∃ b, b = w14.heap.size := ⟨_, rfl⟩
    have k_c : Whole w15 b_c 26 #[.slice A_c (conQ y).length c_c, .slice P_c (conR y).length d_c] := by rw [hw, hbl]; exact Whole.new _ _ _
    rw [← hbl]
    clear hw hbl
    replace o_p := o_p.below d
    replace o_y := o_y.below d
    replace o_x := o_x.below d
    replace o_a := o_a.below d
    replace o_b := o_b.below d
    replace o_r := o_r.below d
    replace o_s := o_s.below d
    replace o_c := o_c.below d
    replace k_x := k_x.below d k_x.lt
    replace k_a := k_a.below d k_a.lt
    replace k_b := k_b.below d k_b.lt
    replace k_r := k_r.below d k_r.lt
    replace k_s := k_s.below d k_s.lt
    replace hb := below_after hb d
    clear d
    clear H1
    have H1 := hide (sconn_any A_y _ c_y _ y w15 ((unhide l_y).arg o_y (by omega)))
    rw [← unhide HF] at H1
    refine (unhide H1).mono ?_
    rintro e w16 ⟨A_d, c_d, P_d, d_d, rfl, o_d, d⟩
    replace o_p := o_p.below d
    replace o_y := o_y.below d
    replace o_x := o_x.below d
    replace o_a := o_a.below d
    replace o_b := o_b.below d
    replace o_r := o_r.below d
    replace o_s := o_s.below d
    replace o_c := o_c.below d
    replace k_x := k_x.below d k_x.lt
    replace k_a := k_a.below d k_a.lt
    replace k_b := k_b.below d k_b.lt
    replace k_r := k_r.below d k_r.lt
    replace k_s := k_s.below d k_s.lt
    replace k_c := k_c.below d k_c.lt
    replace hb := below_after hb d
    clear d
    have q0_x := k_x.cell 0
    have q1_x := k_x.cell 1
    have q2_x := k_x.lt
    simp only [List.getElem?_toArray, List.getElem?_cons_zero, List.getElem?_cons_succ] at q0_x q1_x
    go_wp2
    clear q0_x q1_x q2_x
    obtain ⟨w17, hw⟩ : ∃ W : World, W = w16.alloc (.cells #[.slice A_d (conQ y).length c_d, .slice P_d (conR y).length d_d] 26) := ⟨_, rfl⟩
    rw [← hw]
    have d : Below w16.heap.size w16 w17 := by rw [hw]; exact (Below.refl _ _).alloc (Nat.le_refl _) _
    obtain ⟨b_d, hbl⟩ : ∃ b, b = w16.heap.size := ⟨_, rfl⟩
    have k_d : Whole w17 b_d 26 #[.slice A_d (conQ y).length c_d, .slice P_d (conR y).length d_d] := by rw [hw, hbl]; exact Whole.new _ _ _
    rw [← hbl]
    clear hw hbl
    replace o_p := o_p.below d
    replace o_y := o_y.below d
    replace o_x := o_x.below d
    replace o_a := o_a.below d
    replace o_b := o_b.below d
    replace o_r := o_r.below d
    replace o_s := o_s.below d
    replace o_c := o_c.below d
    replace o_d := o_d.below d
    replace k_x := k_x.below d k_x.lt
    replace k_a := k_a.below d k_a.lt
    replace k_b := k_b.below d k_b.lt
    replace k_r := k_r.below d k_r.lt
    replace k_s := k_s.below d k_s.lt
    replace k_c := k_c.below d k_c.lt
    replace hb := below_after hb d
    clear d
    clear H1
    have HC1 := hide (fun (w' : World) (h : Below w17.heap.size w17 w') => scntn_any A_p A_x P_x _ c_p _ _ c_x _ _ d_x _ p q J w' (((unhide l_p).arg o_p (by omega)).below h) (((unhide l_q).arg o_x.p (by omega)).below h) (((unhide l_J).arg o_x.j (by omega)).below h))
    simp only [← unhide HZ] at HC1
    have HC2 := hide (fun (w' : World) (h : Below w17.heap.size w17 w') => samen_any _ _ _ _ _ _ _ _ _ _ _ _ _ _ _ _ w' (o_a.below h) (o_b.below h) (Nat.le_trans (parQ_le t).1 (by omega)) (parQ_le t).2)
    have HC3 := hide (fun (w' : World) (h : Below w17.heap.size w17 w') => samen_any _ _ _ _ _ _ _ _ _ _ _ _ _ _ _ _ w' (o_r.below h) (o_s.below h) (Nat.le_trans (rev_lite q J).1.1 (by omega)) (Nat.le_trans (rev_lite q J).2.1 (by omega)))
    have HC4 := hide (fun (w' : World) (h : Below w17.heap.size w17 w') => samen_any _ _ _ _ _ _ _ _ _ _ _ _ _ _ _ _ w' (o_c.below h) (o_d.below h) (Nat.le_trans (con_lite y).1.1 (by omega)) (Nat.le_trans (con_lite y).2.1 (by omega)))
    have HC5 := hide (fun (w' : World) (h : Below w17.heap.size w17 w') => inear_any A_x P_x _ c_x _ _ d_x _ q J w' (((unhide l_q).arg o_x.p (by omega)).below h) (((unhide l_J).arg o_x.j (by omega)).below h))
    simp only [← unhide HOK] at HC5
    have HC6 := hide (fun (w' : World) (h : Below w17.heap.size w17 w') => snear_any A_x P_x _ c_x _ _ d_x _ q J w' (((unhide l_q).arg o_x.p (by omega)).below h) (((unhide l_J).arg o_x.j (by omega)).below h))
    simp only [← unhide HOK] at HC6
    have q0_x := k_x.cell 0
    have q1_x := k_x.cell 1
    have q2_x := k_x.lt
    simp only [List.getElem?_toArray, List.getElem?_cons_zero, List.getElem?_cons_succ] at q0_x q1_x
    have q0_a := k_a.cell 0
    have q1_a := k_a.cell 1
    have q2_a := k_a.lt
    simp only [List.getElem?_toArray, List.getElem?_cons_zero, List.getElem?_cons_succ] at q0_a q1_a
    have q0_b := k_b.cell 0
    have q1_b := k_b.cell 1
    have q2_b := k_b.lt
    simp only [List.getElem?_toArray, List.getElem?_cons_zero, List.getElem?_cons_succ] at q0_b q1_b
    have q0_r := k_r.cell 0
    have q1_r := k_r.cell 1
    have q2_r := k_r.lt
    simp only [List.getElem?_toArray, List.getElem?_cons_zero, List.getElem?_cons_succ] at q0_r q1_r
    have q0_s := k_s.cell 0
    have q1_s := k_s.cell 1
    have q2_s := k_s.lt
    simp only [List.getElem?_toArray, List.getElem?_cons_zero, List.getElem?_cons_succ] at q0_s q1_s
    have q0_c := k_c.cell 0
    have q1_c := k_c.cell 1
    have q2_c := k_c.lt
    simp only [List.getElem?_toArray, List.getElem?_cons_zero, List.getElem?_cons_succ] at q0_c q1_c
    have q0_d := k_d.cell 0
    have q1_d := k_d.cell 1
    have q2_d := k_d.lt
    simp only [List.getElem?_toArray, List.getElem?_cons_zero, List.getElem?_cons_succ] at q0_d q1_d
    have hb0 : Below w17.heap.size w17 w17.drew := (Below.refl _ _).drew
    go_wp2
    go_region_held3 (fun w' => w'.cell? ⟨b_x, 0, none⟩ = some (.slice A_x (q).length c_x) ∧ w'.cell? ⟨b_x, 1, none⟩ = some (.slice P_x (J).length d_x) ∧ w'.cell? ⟨b_a, 0, none⟩ = some (.slice A_a (parQ t).length c_a) ∧ w'.cell? ⟨b_a, 1, none⟩ = some (.slice P_a (parN t).length d_a) ∧ w'.cell? ⟨b_b, 0, none⟩ = some (.slice A_b (parQ t).length c_b) ∧ w'.cell? ⟨b_b, 1, none⟩ = some (.slice P_b (parN t).length d_b) ∧ w'.cell? ⟨b_r, 0, none⟩ = some (.slice A_r (revQ q J).length c_r) ∧ w'.cell? ⟨b_r, 1, none⟩ = some (.slice P_r (revJJ q J).length d_r) ∧ w'.cell? ⟨b_s, 0, none⟩ = some (.slice A_s (revQ q J).length c_s) ∧ w'.cell? ⟨b_s, 1, none⟩ = some (.slice P_s (revJJ q J).length d_s) ∧ w'.cell? ⟨b_c, 0, none⟩ = some (.slice A_c (conQ y).length c_c) ∧ w'.cell? ⟨b_c, 1, none⟩ = some (.slice P_c (conR y).length d_c) ∧ w'.cell? ⟨b_d, 0, none⟩ = some (.slice A_d (conQ y).length c_d) ∧ w'.cell? ⟨b_d, 1, none⟩ = some (.slice P_d (conR y).length d_d) ∧ Below w17.heap.size w17 w') ((refine keep14 q0_x q1_x q0_a q1_a q0_b q1_b q0_r q1_r q0_s q1_s q0_c q1_c q0_d q1_d q2_x q2_x q2_a q2_a q2_b q2_b q2_r q2_r q2_s q2_s q2_c q2_c q2_d q2_d ?_; first | assumption | (apply Below.drew; assumption)))
      (first
        | (have g0 := hb0; clear hb0; go_simp; go_at_call 15; refine (unhide HC1 _ g0).mono ?_; rintro e v1 ⟨rfl, y0⟩; have hb1 := below_after g0 y0)
        | (have g1 := hb1; clear hb1; go_simp; go_at_call 16; refine (unhide HC2 _ g1).mono ?_; rintro e v2 ⟨rfl, y1⟩; have hb2 := below_after g1 y1)
        | (have g2 := hb2; clear hb2; go_simp; go_at_call 16; refine (unhide HC3 _ g2).mono ?_; rintro e v3 ⟨rfl, y2⟩; have hb3 := below_after g2 y2)
        | (have g3 := hb3; clear hb3; go_simp; go_at_call 16; refine (unhide HC4 _ g3).mono ?_; rintro e v4 ⟨rfl, y3⟩; have hb4 := below_after g3 y3)
        | (have g4 := hb4; clear hb4; go_simp; go_at_call 17; refine (unhide HC5 _ g4).mono ?_; rintro e v5 ⟨rfl, y4⟩; have hb5 := below_after g4 y4)
        | (have g5 := hb5; clear hb5; go_simp; go_at_call 18; refine (unhide HC6 _ g5).mono ?_; rintro e w18 ⟨rfl, y5⟩; have hb6 := below_after g5 y5))
    have d := hb6
    clear hb6
    clear q0_x q1_x q2_x q0_a q1_a q2_a q0_b q1_b q2_b q0_r q1_r q2_r q0_s q1_s q2_s q0_c q1_c q2_c q0_d q1_d q2_d
    replace o_p := o_p.below d
    replace o_y := o_y.below d
    replace o_x := o_x.below d
    replace o_a := o_a.below d
    replace o_b := o_b.below d
    replace o_r := o_r.below d
    replace o_s := o_s.below d
    replace o_c := o_c.below d
    replace o_d := o_d.below d
    replace k_x := k_x.below d k_x.lt
    replace k_a := k_a.below d k_a.lt
    replace k_b := k_b.below d k_b.lt
    replace k_r := k_r.below d k_r.lt
    replace k_s := k_s.below d k_s.lt
    replace k_c := k_c.below d k_c.lt
    replace k_d := k_d.below d k_d.lt
    replace hb := below_after hb d
    clear d
    clear HC1 HC2 HC3 HC4 HC5 HC6
    clear o_a k_a
    clear o_b k_b
    clear o_s k_s
    clear o_d k_d
    cases ok with
    | false =>
      have H1 := hide (intxt_any A_x P_x _ c_x _ _ d_x _ q J w18 ((unhide l_q).arg o_x.p (by omega)) ((unhide l_J).arg o_x.j (by omega)))
      rw [← unhide HT] at H1
      have q0_x := k_x.cell 0
      have q1_x := k_x.cell 1
      have q2_x := k_x.lt
      simp only [List.getElem?_toArray, List.getElem?_cons_zero, List.getElem?_cons_succ] at q0_x q1_x
      go_wp2_with fail
      clear q0_x q1_x q2_x
      refine (unhide H1).mono ?_
      rintro e w19 ⟨rfl, d⟩
      replace o_p := o_p.below d
      replace o_y := o_y.below d
      replace o_x := o_x.below d
      replace o_r := o_r.below d
      replace o_c := o_c.below d
      replace k_x := k_x.below d k_x.lt
      replace k_r := k_r.below d k_r.lt
      replace k_c := k_c.below d k_c.lt
      replace hb := below_after hb d
      clear d
      clear H1
      have NB := near_back_no (unhide HOK).symm
      have H1 := hide (ipar_any (ntext q J) (by have := ntext_size q J; omega) m w19 (unhide HM _ hb))
      rw [NB.1, NB.2.1, NB.2.2, ← unhide HT] at H1
      clear NB
      go_wp2_with fail
      refine (unhide H1).mono ?_
      rintro e w20 ⟨A_z, c_z, P_z, d_z, rfl, o_z, d⟩
      replace o_p := o_p.below d
      replace o_y := o_y.below d
      replace o_x := o_x.below d
      replace o_r := o_r.below d
      replace o_c := o_c.below d
      replace k_x := k_x.below d k_x.lt
      replace k_r := k_r.below d k_r.lt
      replace k_c := k_c.below d k_c.lt
      replace hb := below_after hb d
      clear d
      clear H1
      have q0_x := k_x.cell 0
      have q1_x := k_x.cell 1
      have q2_x := k_x.lt
      simp only [List.getElem?_toArray, List.getElem?_cons_zero, List.getElem?_cons_succ] at q0_x q1_x
      go_wp2_with fail
      clear q0_x q1_x q2_x
      obtain ⟨w21, hw⟩ : ∃ W : World, W = w20.alloc (.cells #[.slice A_z 0 c_z, .slice P_z 0 d_z] 26) := ⟨_, rfl⟩
      rw [← hw]
      have d : Below w20.heap.size w20 w21 := by rw [hw]; exact (Below.refl _ _).alloc (Nat.le_refl _) _
      obtain ⟨b_z, hbl⟩ : ∃ b, b = w20.heap.size := ⟨_, rfl⟩
      have k_z : Whole w21 b_z 26 #[.slice A_z 0 c_z, .slice P_z 0 d_z] := by rw [hw, hbl]; exact Whole.new _ _ _
      rw [← hbl]
      clear hw hbl
      replace o_p := o_p.below d
      replace o_y := o_y.below d
      replace o_x := o_x.below d
      replace o_r := o_r.below d
      replace o_c := o_c.below d
      replace o_z := o_z.below d
      replace k_x := k_x.below d k_x.lt
      replace k_r := k_r.below d k_r.lt
      replace k_c := k_c.below d k_c.lt
      replace hb := below_after hb d
      clear d
      have H1 := hide (sntxt_any A_x P_x _ c_x _ _ d_x _ q J w21 ((unhide l_q).arg o_x.p (by omega)) ((unhide l_J).arg o_x.j (by omega)))
      rw [← unhide HT] at H1
      refine (unhide H1).mono ?_
      rintro e w22 ⟨rfl, d⟩
      replace o_p := o_p.below d
      replace o_y := o_y.below d
      replace o_x := o_x.below d
      replace o_r := o_r.below d
      replace o_c := o_c.below d
      replace o_z := o_z.below d
      replace k_x := k_x.below d k_x.lt
      replace k_r := k_r.below d k_r.lt
      replace k_c := k_c.below d k_c.lt
      replace k_z := k_z.below d k_z.lt
      replace hb := below_after hb d
      clear d
      clear H1
      have H1 := hide (snear_any A_x P_x _ c_x _ _ d_x _ q J w22 ((unhide l_q).arg o_x.p (by omega)) ((unhide l_J).arg o_x.j (by omega)))
      rw [← unhide HOK] at H1
      have q0_x := k_x.cell 0
      have q1_x := k_x.cell 1
      have q2_x := k_x.lt
      simp only [List.getElem?_toArray, List.getElem?_cons_zero, List.getElem?_cons_succ] at q0_x q1_x
      go_wp2_with fail
      clear q0_x q1_x q2_x
      refine (unhide H1).mono ?_
      rintro e w23 ⟨rfl, d⟩
      replace o_p := o_p.below d
      replace o_y := o_y.below d
      replace o_x := o_x.below d
      replace o_r := o_r.below d
      replace o_c := o_c.below d
      replace o_z := o_z.below d
      replace k_x := k_x.below d k_x.lt
      replace k_r := k_r.below d k_r.lt
      replace k_c := k_c.below d k_c.lt
      replace k_z := k_z.below d k_z.lt
      replace hb := below_after hb d
      clear d
      clear H1
      obtain rfl : z = -1 := (unhide HZ).trans (numNear_no (.inr (unhide HOK).symm))
      clear o_p
      clear o_y
      clear o_x k_x
      clear o_r k_r
      clear o_c k_c
      clear o_z k_z
      go_wp2
      go_ret
      exact ⟨rfl, hb⟩
    | true =>
      have H1 := hide (intxt_any A_x P_x _ c_x _ _ d_x _ q J w18 ((unhide l_q).arg o_x.p (by omega)) ((unhide l_J).arg o_x.j (by omega)))
      rw [← unhide HT] at H1
      have q0_x := k_x.cell 0
      have q1_x := k_x.cell 1
      have q2_x := k_x.lt
      simp only [List.getElem?_toArray, List.getElem?_cons_zero, List.getElem?_cons_succ] at q0_x q1_x
      go_wp2_with fail
      clear q0_x q1_x q2_x
      refine (unhide H1).mono ?_
      rintro e w19 ⟨rfl, d⟩
      replace o_p := o_p.below d
      replace o_y := o_y.below d
      replace o_x := o_x.below d
      replace o_r := o_r.below d
      replace o_c := o_c.below d
      replace k_x := k_x.below d k_x.lt
      replace k_r := k_r.below d k_r.lt
      replace k_c := k_c.below d k_c.lt
      replace hb := below_after hb d
      clear d
      clear H1
      have NB := near_back (unhide HOK).symm
      have H1 := hide (ipar_any (ntext q J) (by have := ntext_size q J; omega) m w19 (unhide HM _ hb))
      rw [NB.1, NB.2.1, NB.2.2, ← unhide HT] at H1
      clear NB
      go_wp2_with fail
      refine (unhide H1).mono ?_
      rintro e w20 ⟨A_z, c_z, P_z, d_z, rfl, o_z, d⟩
      replace o_p := o_p.below d
      replace o_y := o_y.below d
      replace o_x := o_x.below d
      replace o_r := o_r.below d
      replace o_c := o_c.below d
      replace k_x := k_x.below d k_x.lt
      replace k_r := k_r.below d k_r.lt
      replace k_c := k_c.below d k_c.lt
      replace hb := below_after hb d
      clear d
      clear H1
      have q0_x := k_x.cell 0
      have q1_x := k_x.cell 1
      have q2_x := k_x.lt
      simp only [List.getElem?_toArray, List.getElem?_cons_zero, List.getElem?_cons_succ] at q0_x q1_x
      go_wp2_with fail
      clear q0_x q1_x q2_x
      obtain ⟨w21, hw⟩ : ∃ W : World, W = w20.alloc (.cells #[.slice A_z (q).length c_z, .slice P_z (J).length d_z] 26) := ⟨_, rfl⟩
      rw [← hw]
      have d : Below w20.heap.size w20 w21 := by rw [hw]; exact (Below.refl _ _).alloc (Nat.le_refl _) _
      obtain ⟨b_z, hbl⟩ : ∃ b, b = w20.heap.size := ⟨_, rfl⟩
      have k_z : Whole w21 b_z 26 #[.slice A_z (q).length c_z, .slice P_z (J).length d_z] := by rw [hw, hbl]; exact Whole.new _ _ _
      rw [← hbl]
      clear hw hbl
      replace o_p := o_p.below d
      replace o_y := o_y.below d
      replace o_x := o_x.below d
      replace o_r := o_r.below d
      replace o_c := o_c.below d
      replace o_z := o_z.below d
      replace k_x := k_x.below d k_x.lt
      replace k_r := k_r.below d k_r.lt
      replace k_c := k_c.below d k_c.lt
      replace hb := below_after hb d
      clear d
      have H1 := hide (sntxt_any A_x P_x _ c_x _ _ d_x _ q J w21 ((unhide l_q).arg o_x.p (by omega)) ((unhide l_J).arg o_x.j (by omega)))
      rw [← unhide HT] at H1
      refine (unhide H1).mono ?_
      rintro e w22 ⟨rfl, d⟩
      replace o_p := o_p.below d
      replace o_y := o_y.below d
      replace o_x := o_x.below d
      replace o_r := o_r.below d
      replace o_c := o_c.below d
      replace o_z := o_z.below d
      replace k_x := k_x.below d k_x.lt
      replace k_r := k_r.below d k_r.lt
      replace k_c := k_c.below d k_c.lt
      replace k_z := k_z.below d k_z.lt
      replace hb := below_after hb d
      clear d
      clear H1
      have H1 := hide (snear_any A_x P_x _ c_x _ _ d_x _ q J w22 ((unhide l_q).arg o_x.p (by omega)) ((unhide l_J).arg o_x.j (by omega)))
      rw [← unhide HOK] at H1
      have q0_x := k_x.cell 0
      have q1_x := k_x.cell 1
      have q2_x := k_x.lt
      simp only [List.getElem?_toArray, List.getElem?_cons_zero, List.getElem?_cons_succ] at q0_x q1_x
      go_wp2_with fail
      clear q0_x q1_x q2_x
      refine (unhide H1).mono ?_
      rintro e w23 ⟨rfl, d⟩
      replace o_p := o_p.below d
      replace o_y := o_y.below d
      replace o_x := o_x.below d
      replace o_r := o_r.below d
      replace o_c := o_c.below d
      replace o_z := o_z.below d
      replace k_x := k_x.below d k_x.lt
      replace k_r := k_r.below d k_r.lt
      replace k_c := k_c.below d k_c.lt
      replace k_z := k_z.below d k_z.lt
      replace hb := below_after hb d
      clear d
      clear H1
      have q0_x := k_x.cell 0
      have q1_x := k_x.cell 1
      have q2_x := k_x.lt
      simp only [List.getElem?_toArray, List.getElem?_cons_zero, List.getElem?_cons_succ] at q0_x q1_x
      have q0_z := k_z.cell 0
      have q1_z := k_z.cell 1
      have q2_z := k_z.lt
      simp only [List.getElem?_toArray, List.getElem?_cons_zero, List.getElem?_cons_succ] at q0_z q1_z
      go_wp2_with fail
      clear q0_x q1_x q2_x q0_z q1_z q2_z
      refine (samen_any _ _ _ _ _ _ _ _ _ _ _ _ _ _ _ _ w23 o_z o_x (Nat.le_trans (unhide l_q).1 (by omega)) (Nat.le_trans (unhide l_J).1 (by omega))).mono ?_
      rintro e w24 ⟨rfl, d⟩
      replace o_p := o_p.below d
      replace o_y := o_y.below d
      replace o_x := o_x.below d
      replace o_r := o_r.below d
      replace o_c := o_c.below d
      replace o_z := o_z.below d
      replace k_x := k_x.below d k_x.lt
      replace k_r := k_r.below d k_r.lt
      replace k_c := k_c.below d k_c.lt
      replace k_z := k_z.below d k_z.lt
      replace hb := below_after hb d
      clear d
      clear o_z k_z
      obtain ⟨bp, hbp⟩ : ∃ b, isP p = b := ⟨_, rfl⟩
      cases bp with
      | false =>
        obtain rfl : z = -1 := (unhide HZ).trans (numNear_no (.inl hbp))
        clear o_p
        clear o_y
        clear o_x k_x
        clear o_r k_r
        clear o_c k_c
        clear hbp
        go_wp2
        go_ret
        exact ⟨rfl, hb⟩
      | true =>
        obtain ⟨M0, hM0⟩ : ∃ M0 : Nat, z = (M0 : Int) := ⟨_, (unhide HZ).trans (numNear_yes hbp (unhide HOK).symm)⟩
        subst hM0
        have HP := hide hbp
        clear hbp
        cases five with
        | false =>
          clear o_y
          clear o_c k_c
          have hp := unhide HP
          have hn := (unhide HOK).symm
          have hq := (nearOK_iff.1 hn).1
          have EP := hide (num_plain hp hq)
          have EO := hide (num_occ hp hq)
          have ER := hide (show numNear (revR p) (revQ q J) (revJJ q J) = (M0 : Int) from (num_revN hp hn).trans ((unhide HZ).symm))
          have hle : (M0 : Int) ≤ ((occR p q).length : Nat) := by have h1 := num_le hp hn; rw [← unhide HZ] at h1; exact h1
          have LR := hide (revR_lite9 hp)
          obtain ⟨M, hM⟩ : ∃ M, M = (occR p q).length := ⟨_, rfl⟩
          rw [← hM] at EP EO hle
          clear hM hp hn hq
          have q0_x := k_x.cell 0
          have q1_x := k_x.cell 1
          have q2_x := k_x.lt
          simp only [List.getElem?_toArray, List.getElem?_cons_zero, List.getElem?_cons_succ] at q0_x q1_x
          go_wp2
          clear q0_x q1_x q2_x
          obtain ⟨w25, hw⟩ : ∃ W : World, W = w24.alloc (.cells #[.slice A_x q.length c_x, .slice none 0 0] 26) := ⟨_, rfl⟩
          rw [← hw]
          have d : Below w24.heap.size w24 w25 := by rw [hw]; exact (Below.refl _ _).alloc (Nat.le_refl _) _
          obtain ⟨b_m, hbl⟩ : ∃ b, b = w24.heap.size := ⟨_, rfl⟩
          have k_m : Whole w25 b_m 26 #[.slice A_x q.length c_x, .slice none 0 0] := by rw [hw, hbl]; exact Whole.new _ _ _
          rw [← hbl]
          clear hw hbl
          replace o_p := o_p.below d
          replace o_x := o_x.below d
          replace o_r := o_r.below d
          replace k_x := k_x.below d k_x.lt
          replace k_r := k_r.below d k_r.lt
          replace hb := below_after hb d
          clear d
          have HC1 := hide (fun (w' : World) (h : Below w25.heap.size w25 w') => icntn_any A_p A_x none _ c_p _ _ c_x _ 0 0 _ p q [] w' (((unhide l_p).arg o_p (by omega)).below h) (((unhide l_q).arg o_x.p (by omega)).below h) (arg_none w'))
          simp only [unhide EP] at HC1
          have HC2 := HC1
          have HC3 := hide (fun (w' : World) (h : Below w25.heap.size w25 w') => scnt_any A_p A_x _ c_p _ _ c_x _ p q w' (((unhide l_p).arg o_p (by omega)).below h) (((unhide l_q).arg o_x.p (by omega)).below h))
          simp only [unhide EO] at HC3
          have HC4 := hide (fun (w' : World) (h : Below w25.heap.size w25 w') => srev_any A_p _ c_p _ p w' (((unhide l_p).arg o_p (by omega)).below h))
          have HC5 := hide (fun (w' : World) (h : Below w25.heap.size w25 w') (A9 : Option Addr) (c9 B9 : Nat) (o9 : Ints w' B9 (.slice A9 (revR p).length c9) (revR p)) => icntn_any A9 A_r P_r _ c9 _ _ c_r _ _ d_r _ (revR p) (revQ q J) (revJJ q J) w' ((unhide LR).arg o9 (by omega)) (((unhide (hide (rev_lite q J).1)).arg o_r.p (by omega)).below h) (((unhide (hide (rev_lite q J).2)).arg o_r.j (by omega)).below h))
          simp only [unhide ER] at HC5
          have q0_x := k_x.cell 0
          have q1_x := k_x.cell 1
          have q2_x := k_x.lt
          simp only [List.getElem?_toArray, List.getElem?_cons_zero, List.getElem?_cons_succ] at q0_x q1_x
          have q0_m := k_m.cell 0
          have q1_m := k_m.cell 1
          have q2_m := k_m.lt
          simp only [List.getElem?_toArray, List.getElem?_cons_zero, List.getElem?_cons_succ] at q0_m q1_m
          have q0_r := k_r.cell 0
          have q1_r := k_r.cell 1
          have q2_r := k_r.lt
          simp only [List.getElem?_toArray, List.getElem?_cons_zero, List.getElem?_cons_succ] at q0_r q1_r
          have hb0 : Below w25.heap.size w25 w25.drew := (Below.refl _ _).drew
          go_wp2
          go_region_held3 (fun w' => w'.cell? ⟨b_x, 0, none⟩ = some (.slice A_x (q).length c_x) ∧ w'.cell? ⟨b_x, 1, none⟩ = some (.slice P_x (J).length d_x) ∧ w'.cell? ⟨b_m, 0, none⟩ = some (.slice A_x q.length c_x) ∧ w'.cell? ⟨b_m, 1, none⟩ = some (.slice none 0 0) ∧ w'.cell? ⟨b_r, 0, none⟩ = some (.slice A_r (revQ q J).length c_r) ∧ w'.cell? ⟨b_r, 1, none⟩ = some (.slice P_r (revJJ q J).length d_r) ∧ Below w25.heap.size w25 w') ((refine keep6 q0_x q1_x q0_m q1_m q0_r q1_r q2_x q2_x q2_m q2_m q2_r q2_r ?_; first | assumption | (apply Below.drew; assumption)))
            (first
              | (have g0 := hb0; clear hb0; go_simp; go_at_call 6; refine (unhide HC1 _ g0).mono ?_; rintro e v1 ⟨rfl, y0⟩; have hb1 := below_after g0 y0)
              | (have g1 := hb1; clear hb1; go_simp; go_at_call 6; refine (unhide HC2 _ g1).mono ?_; rintro e v2 ⟨rfl, y1⟩; have hb2 := below_after g1 y1)
              | (have g2 := hb2; clear hb2; go_simp; go_at_call 22; refine (unhide HC3 _ g2).mono ?_; rintro e v3 ⟨rfl, y2⟩; have hb3 := below_after g2 y2)
              | (have g3 := hb3; clear hb3; go_simp; go_at_call 23; refine (unhide HC4 _ g3).mono ?_; rintro e v4 ⟨A9, c9, rfl, o9, y3⟩; have hb4 := below_after g3 y3)
              | (have g4 := hb4; clear hb4; go_simp; go_at_call 6; refine (unhide HC5 _ g4 A9 c9 _ o9).mono ?_; rintro e w26 ⟨rfl, y4⟩; have hb5 := below_after g4 y4))
          have d := hb5
          clear hb5
          clear q0_x q1_x q2_x q0_m q1_m q2_m q0_r q1_r q2_r
          replace o_p := o_p.below d
          replace o_x := o_x.below d
          replace o_r := o_r.below d
          replace k_x := k_x.below d k_x.lt
          replace k_r := k_r.below d k_r.lt
          replace k_m := k_m.below d k_m.lt
          replace hb := below_after hb d
          clear d
          clear o_p
          clear o_x k_x
          clear o_r k_r
          go_wp2
          go_ret
          exact ⟨rfl, hb⟩
        | true =>
          by_cases hy0 : y.length = 0
          · have HY0 := hide hy0
            obtain ⟨ny, hny⟩ : ∃ n, n = y.length := ⟨_, rfl⟩
            rw [← hny] at o_y hy0 ⊢
            subst hy0
            clear hny
            clear o_y
            clear o_c k_c
            have hp := unhide HP
            have hn := (unhide HOK).symm
            have hq := (nearOK_iff.1 hn).1
            have EP := hide (num_plain hp hq)
            have EO := hide (num_occ hp hq)
            have ER := hide (show numNear (revR p) (revQ q J) (revJJ q J) = (M0 : Int) from (num_revN hp hn).trans ((unhide HZ).symm))
            have hle : (M0 : Int) ≤ ((occR p q).length : Nat) := by have h1 := num_le hp hn; rw [← unhide HZ] at h1; exact h1
            have LR := hide (revR_lite9 hp)
            obtain ⟨M, hM⟩ : ∃ M, M = (occR p q).length := ⟨_, rfl⟩
            rw [← hM] at EP EO hle
            clear hM hp hn hq
            have q0_x := k_x.cell 0
            have q1_x := k_x.cell 1
            have q2_x := k_x.lt
            simp only [List.getElem?_toArray, List.getElem?_cons_zero, List.getElem?_cons_succ] at q0_x q1_x
            go_wp2
            clear q0_x q1_x q2_x
            obtain ⟨w25, hw⟩ : ∃ W : World, W = w24.alloc (.cells #[.slice A_x q.length c_x, .slice none 0 0] 26) := ⟨_, rfl⟩
            rw [← hw]
            have d : Below w24.heap.size w24 w25 := by rw [hw]; exact (Below.refl _ _).alloc (Nat.le_refl _) _
            obtain ⟨b_m, hbl⟩ : ∃ b, b = w24.heap.size := ⟨_, rfl⟩
            have k_m : Whole w25 b_m 26 #[.slice A_x q.length c_x, .slice none 0 0] := by rw [hw, hbl]; exact Whole.new _ _ _
            rw [← hbl]
            clear hw hbl
            replace o_p := o_p.below d
            replace o_x := o_x.below d
            replace o_r := o_r.below d
            replace k_x := k_x.below d k_x.lt
            replace k_r := k_r.below d k_r.lt
            replace hb := below_after hb d
            clear d
            have HC1 := hide (fun (w' : World) (h : Below w25.heap.size w25 w') => icntn_any A_p A_x none _ c_p _ _ c_x _ 0 0 _ p q [] w' (((unhide l_p).arg o_p (by omega)).below h) (((unhide l_q).arg o_x.p (by omega)).below h) (arg_none w'))
            simp only [unhide EP] at HC1
            have HC2 := HC1
            have HC3 := hide (fun (w' : World) (h : Below w25.heap.size w25 w') => scnt_any A_p A_x _ c_p _ _ c_x _ p q w' (((unhide l_p).arg o_p (by omega)).below h) (((unhide l_q).arg o_x.p (by omega)).below h))
            simp only [unhide EO] at HC3
            have HC4 := hide (fun (w' : World) (h : Below w25.heap.size w25 w') => srev_any A_p _ c_p _ p w' (((unhide l_p).arg o_p (by omega)).below h))
            have HC5 := hide (fun (w' : World) (h : Below w25.heap.size w25 w') (A9 : Option Addr) (c9 B9 : Nat) (o9 : Ints w' B9 (.slice A9 (revR p).length c9) (revR p)) => icntn_any A9 A_r P_r _ c9 _ _ c_r _ _ d_r _ (revR p) (revQ q J) (revJJ q J) w' ((unhide LR).arg o9 (by omega)) (((unhide (hide (rev_lite q J).1)).arg o_r.p (by omega)).below h) (((unhide (hide (rev_lite q J).2)).arg o_r.j (by omega)).below h))
            simp only [unhide ER] at HC5
            have q0_x := k_x.cell 0
            have q1_x := k_x.cell 1
            have q2_x := k_x.lt
            simp only [List.getElem?_toArray, List.getElem?_cons_zero, List.getElem?_cons_succ] at q0_x q1_x
            have q0_m := k_m.cell 0
            have q1_m := k_m.cell 1
            have q2_m := k_m.lt
            simp only [List.getElem?_toArray, List.getElem?_cons_zero, List.getElem?_cons_succ] at q0_m q1_m
            have q0_r := k_r.cell 0
            have q1_r := k_r.cell 1
            have q2_r := k_r.lt
            simp only [List.getElem?_toArray, List.getElem?_cons_zero, List.getElem?_cons_succ] at q0_r q1_r
            have hb0 : Below w25.heap.size w25 w25.drew := (Below.refl _ _).drew
            go_wp2
            go_region_held3 (fun w' => w'.cell? ⟨b_x, 0, none⟩ = some (.slice A_x (q).length c_x) ∧ w'.cell? ⟨b_x, 1, none⟩ = some (.slice P_x (J).length d_x) ∧ w'.cell? ⟨b_m, 0, none⟩ = some (.slice A_x q.length c_x) ∧ w'.cell? ⟨b_m, 1, none⟩ = some (.slice none 0 0) ∧ w'.cell? ⟨b_r, 0, none⟩ = some (.slice A_r (revQ q J).length c_r) ∧ w'.cell? ⟨b_r, 1, none⟩ = some (.slice P_r (revJJ q J).length d_r) ∧ Below w25.heap.size w25 w') ((refine keep6 q0_x q1_x q0_m q1_m q0_r q1_r q2_x q2_x q2_m q2_m q2_r q2_r ?_; first | assumption | (apply Below.drew; assumption)))
              (first
                | (have g0 := hb0; clear hb0; go_simp; go_at_call 6; refine (unhide HC1 _ g0).mono ?_; rintro e v1 ⟨rfl, y0⟩; have hb1 := below_after g0 y0)
                | (have g1 := hb1; clear hb1; go_simp; go_at_call 6; refine (unhide HC2 _ g1).mono ?_; rintro e v2 ⟨rfl, y1⟩; have hb2 := below_after g1 y1)
                | (have g2 := hb2; clear hb2; go_simp; go_at_call 22; refine (unhide HC3 _ g2).mono ?_; rintro e v3 ⟨rfl, y2⟩; have hb3 := below_after g2 y2)
                | (have g3 := hb3; clear hb3; go_simp; go_at_call 23; refine (unhide HC4 _ g3).mono ?_; rintro e v4 ⟨A9, c9, rfl, o9, y3⟩; have hb4 := below_after g3 y3)
                | (have g4 := hb4; clear hb4; go_simp; go_at_call 6; refine (unhide HC5 _ g4 A9 c9 _ o9).mono ?_; rintro e w26 ⟨rfl, y4⟩; have hb5 := below_after g4 y4))
            have d := hb5
            clear hb5
            clear q0_x q1_x q2_x q0_m q1_m q2_m q0_r q1_r q2_r
            replace o_p := o_p.below d
            replace o_x := o_x.below d
            replace o_r := o_r.below d
            replace k_x := k_x.below d k_x.lt
            replace k_r := k_r.below d k_r.lt
            replace k_m := k_m.below d k_m.lt
            replace hb := below_after hb d
            clear d
            clear o_p
            clear o_x k_x
            clear o_r k_r
            go_wp2
            go_ret
            exact ⟨rfl, hb⟩
          · have hyp : (0 : Int) < (y.length : Int) := by omega
            have EC := hide (num_con (unhide HP) (unhide HF).symm hy0)
            clear hy0
            have H1 := hide (icntn_any A_p A_c P_c _ c_p _ _ c_c _ _ d_c _ p (conQ y) (conR y) w24 ((unhide l_p).arg o_p (by omega)) ((unhide (hide (con_lite y).1)).arg o_c.p (by omega)) ((unhide (hide (con_lite y).2)).arg o_c.j (by omega)))
            rw [unhide EC] at H1
            have q0_c := k_c.cell 0
            have q1_c := k_c.cell 1
            have q2_c := k_c.lt
            simp only [List.getElem?_toArray, List.getElem?_cons_zero, List.getElem?_cons_succ] at q0_c q1_c
            go_wp2_with fail
            clear q0_c q1_c q2_c
            refine (unhide H1).mono ?_
            rintro e w25 ⟨rfl, d⟩
            replace o_p := o_p.below d
            replace o_y := o_y.below d
            replace o_x := o_x.below d
            replace o_r := o_r.below d
            replace o_c := o_c.below d
            replace k_x := k_x.below d k_x.lt
            replace k_r := k_r.below d k_r.lt
            replace k_c := k_c.below d k_c.lt
            replace hb := below_after hb d
            clear d
            clear H1
            go_wp2_with fail
            refine (srun_any A_p A_y _ c_p _ _ c_y _ p y w25 ((unhide l_p).arg o_p (by omega)) ((unhide l_y).arg o_y (by omega))).mono ?_
            rintro e w26 ⟨rfl, d⟩
            replace o_p := o_p.below d
            replace o_y := o_y.below d
            replace o_x := o_x.below d
            replace o_r := o_r.below d
            replace o_c := o_c.below d
            replace k_x := k_x.below d k_x.lt
            replace k_r := k_r.below d k_r.lt
            replace k_c := k_c.below d k_c.lt
            replace hb := below_after hb d
            clear d
            clear hyp EC
            clear o_y
            clear o_c k_c
            have hp := unhide HP
            have hn := (unhide HOK).symm
            have hq := (nearOK_iff.1 hn).1
            have EP := hide (num_plain hp hq)
            have EO := hide (num_occ hp hq)
            have ER := hide (show numNear (revR p) (revQ q J) (revJJ q J) = (M0 : Int) from (num_revN hp hn).trans ((unhide HZ).symm))
            have hle : (M0 : Int) ≤ ((occR p q).length : Nat) := by have h1 := num_le hp hn; rw [← unhide HZ] at h1; exact h1
            have LR := hide (revR_lite9 hp)
            obtain ⟨M, hM⟩ : ∃ M, M = (occR p q).length := ⟨_, rfl⟩
            rw [← hM] at EP EO hle
            clear hM hp hn hq
            have q0_x := k_x.cell 0
            have q1_x := k_x.cell 1
            have q2_x := k_x.lt
            simp only [List.getElem?_toArray, List.getElem?_cons_zero, List.getElem?_cons_succ] at q0_x q1_x
            go_wp2
            clear q0_x q1_x q2_x
            obtain ⟨w27, hw⟩ : ∃ W : World, W = w26.alloc (.cells #[.slice A_x q.length c_x, .slice none 0 0] 26) := ⟨_, rfl⟩
            rw [← hw]
            have d : Below w26.heap.size w26 w27 := by rw [hw]; exact (Below.refl _ _).alloc (Nat.le_refl _) _
            obtain ⟨b_m, hbl⟩ : ∃ b, b = w26.heap.size := ⟨_, rfl⟩
            have k_m : Whole w27 b_m 26 #[.slice A_x q.length c_x, .slice none 0 0] := by rw [hw, hbl]; exact Whole.new _ _ _
            rw [← hbl]
            clear hw hbl
            replace o_p := o_p.below d
            replace o_x := o_x.below d
            replace o_r := o_r.below d
            replace k_x := k_x.below d k_x.lt
            replace k_r := k_r.below d k_r.lt
            replace hb := below_after hb d
            clear d
            have HC1 := hide (fun (w' : World) (h : Below w27.heap.size w27 w') => icntn_any A_p A_x none _ c_p _ _ c_x _ 0 0 _ p q [] w' (((unhide l_p).arg o_p (by omega)).below h) (((unhide l_q).arg o_x.p (by omega)).below h) (arg_none w'))
            simp only [unhide EP] at HC1
            have HC2 := HC1
            have HC3 := hide (fun (w' : World) (h : Below w27.heap.size w27 w') => scnt_any A_p A_x _ c_p _ _ c_x _ p q w' (((unhide l_p).arg o_p (by omega)).below h) (((unhide l_q).arg o_x.p (by omega)).below h))
            simp only [unhide EO] at HC3
            have HC4 := hide (fun (w' : World) (h : Below w27.heap.size w27 w') => srev_any A_p _ c_p _ p w' (((unhide l_p).arg o_p (by omega)).below h))
            have HC5 := hide (fun (w' : World) (h : Below w27.heap.size w27 w') (A9 : Option Addr) (c9 B9 : Nat) (o9 : Ints w' B9 (.slice A9 (revR p).length c9) (revR p)) => icntn_any A9 A_r P_r _ c9 _ _ c_r _ _ d_r _ (revR p) (revQ q J) (revJJ q J) w' ((unhide LR).arg o9 (by omega)) (((unhide (hide (rev_lite q J).1)).arg o_r.p (by omega)).below h) (((unhide (hide (rev_lite q J).2)).arg o_r.j (by omega)).below h))
            simp only [unhide ER] at HC5
            have q0_x := k_x.cell 0
            have q1_x := k_x.cell 1
            have q2_x := k_x.lt
            simp only [List.getElem?_toArray, List.getElem?_cons_zero, List.getElem?_cons_succ] at q0_x q1_x
            have q0_m := k_m.cell 0
            have q1_m := k_m.cell 1
            have q2_m := k_m.lt
            simp only [List.getElem?_toArray, List.getElem?_cons_zero, List.getElem?_cons_succ] at q0_m q1_m
            have q0_r := k_r.cell 0
            have q1_r := k_r.cell 1
            have q2_r := k_r.lt
            simp only [List.getElem?_toArray, List.getElem?_cons_zero, List.getElem?_cons_succ] at q0_r q1_r
            have hb0 : Below w27.heap.size w27 w27.drew := (Below.refl _ _).drew
            go_wp2
            go_region_held3 (fun w' => w'.cell? ⟨b_x, 0, none⟩ = some (.slice A_x (q).length c_x) ∧ w'.cell? ⟨b_x, 1, none⟩ = some (.slice P_x (J).length d_x) ∧ w'.cell? ⟨b_m, 0, none⟩ = some (.slice A_x q.length c_x) ∧ w'.cell? ⟨b_m, 1, none⟩ = some (.slice none 0 0) ∧ w'.cell? ⟨b_r, 0, none⟩ = some (.slice A_r (revQ q J).length c_r) ∧ w'.cell? ⟨b_r, 1, none⟩ = some (.slice P_r (revJJ q J).length d_r) ∧ Below w27.heap.size w27 w') ((refine keep6 q0_x q1_x q0_m q1_m q0_r q1_r q2_x q2_x q2_m q2_m q2_r q2_r ?_; first | assumption | (apply Below.drew; assumption)))
              (first
                | (have g0 := hb0; clear hb0; go_simp; go_at_call 6; refine (unhide HC1 _ g0).mono ?_; rintro e v1 ⟨rfl, y0⟩; have hb1 := below_after g0 y0)
                | (have g1 := hb1; clear hb1; go_simp; go_at_call 6; refine (unhide HC2 _ g1).mono ?_; rintro e v2 ⟨rfl, y1⟩; have hb2 := below_after g1 y1)
                | (have g2 := hb2; clear hb2; go_simp; go_at_call 22; refine (unhide HC3 _ g2).mono ?_; rintro e v3 ⟨rfl, y2⟩; have hb3 := below_after g2 y2)
                | (have g3 := hb3; clear hb3; go_simp; go_at_call 23; refine (unhide HC4 _ g3).mono ?_; rintro e v4 ⟨A9, c9, rfl, o9, y3⟩; have hb4 := below_after g3 y3)
                | (have g4 := hb4; clear hb4; go_simp; go_at_call 6; refine (unhide HC5 _ g4 A9 c9 _ o9).mono ?_; rintro e w28 ⟨rfl, y4⟩; have hb5 := below_after g4 y4))
            have d := hb5
            clear hb5
            clear q0_x q1_x q2_x q0_m q1_m q2_m q0_r q1_r q2_r
            replace o_p := o_p.below d
            replace o_x := o_x.below d
            replace o_r := o_r.below d
            replace k_x := k_x.below d k_x.lt
            replace k_r := k_r.below d k_r.lt
            replace k_m := k_m.below d k_m.lt
            replace hb := below_after hb d
            clear d
            clear o_p
            clear o_x k_x
            clear o_r k_r
            go_wp2
            go_ret
            exact ⟨rfl, hb⟩
  · rw [show decide (1048576 < n) = true from decide_eq_true (by omega)] at HG
    clear hr hn
    go_enter Tryd.func3, Tryd.ntmps3
    go_wp2_with fail
    refine (unhide HG).mono ?_
    rintro e w0 ⟨rfl, rfl⟩
    go_wp2
    go_ret
    exact ⟨rfl, Below.refl _ _⟩

theorem params_ok : ∀ t ∈ (#[22] : Array TypeId).toList, Tryd.prog.readableRec t = true ∧ t < Tryd.prog.types.size := by
  intro t ht
  simp only [List.mem_cons, List.not_mem_nil, or_false] at ht
  subst ht
  exact ⟨by kernel_rfl, of_decide_eq_true (by kernel_rfl)⟩

set_option maxRecDepth 100000 in
/-- WHAT THE WALK GIVES, FOR EVERY ARGUMENT. -/
theorem contract (H : Type) (enc : TypeId × Value → H) (W : World) (base : Nat) (args : Array Value) (ds gs : List (DataW H)) (before : List MemPlace)
    (hval : ∀ (j : Nat) t v, Tryd.f3.params[j]? = some t → args[j]? = some v → Value.okWide Tryd.prog W .any base t v)
    (hW : DataW.Whole enc Tryd.prog Tryd.f3.params.toList Rows.fnNearsSpec.vars false W args.toList ds gs before) (hL : laidMetH Tryd.prog Rows.fnNearsRow.laid W) (hS : W.ShapedOpen Tryd.prog) :
    Calls Tryd.prog 3 args W fun e W' => ∃ v, e = .returned v ∧ Rows.fnNearsSpec.post enc Tryd.prog Tryd.f3 false true false false W args v W' := by
  have hW' := hW
  obtain ⟨p, q, hA0, hV, rfl, hfz, hnd⟩ := hW
  have hA : DataW.TrodAll enc Tryd.prog W 0 (fun _ => true) true Tryd.f3.params.toList args.toList ds p := hA0
  rw [Tryd.params3] at hA hval
  obtain ⟨v0, d0, rfl, rfl, h0⟩ := trodAll_one hA
  obtain ⟨rfl, rfl⟩ := trodVars_none hV
  obtain ⟨Abs, nbs, cbs, bs, rfl, hrbs, hnbs⟩ := open_bytes_reads Tryd.underlying22 Tryd.underlying5 cellsByte (hval 0 22 v0 rfl rfl) h0 (fun x hx => by simpa using hW'.lt x (by simp [hx]))
  have hL' : laidMet Tryd.prog Rows.fnNearsRow.laid W := hL
  obtain ⟨m, hm⟩ := Tryd.laysM146.s1_3 W hS
  refine (walk Abs nbs cbs bs m W hrbs hnbs hm).mono fun e W' ⟨he, hb⟩ => ?_
  subst he
  exact ⟨_, rfl, law_end laidOut (by rw [Tryd.params3]; exact params_ok) Tryd.underlying4 rfl rfl hW' rfl hb⟩

set_option maxRecDepth 100000 in
theorem laid_met (os : Os) : laidMet Tryd.prog Rows.fnNearsRow.laid ((laidWorldS os).forCall (fun _ _ => 0) ⟨#[], #[.slice none 0 0], []⟩).memory :=
  laidMet_of_run' 8 (by kernel_rfl) (by kernel_rfl)
set_option maxRecDepth 100000 in
theorem reads (os : Os) {H : Type} (enc : TypeId × Value → H) : ∃ places, DataW.whole enc Tryd.prog ((laidWorldS os).forCall (fun _ _ => 0) ⟨#[], #[.slice none 0 0], []⟩).memory Tryd.f3.params.toList Rows.fnNearsSpec.vars false #[Value.slice none 0 0].toList 8 = some ([.nil], [], places) :=
  ⟨[], by kernel_rfl⟩

set_option maxRecDepth 100000 in
theorem lifted (os : Os) (started : os.Started) (H : Type) (enc : TypeId × Value → H) (F : Stop.Interp) :
    ReturnsInHanded {} Tryd.checked os 3 .any ((OpenSpec.ofChange Rows.fnNearsSpec).preRow enc Tryd.prog Tryd.f3 Rows.fnNearsRow.domain false Rows.fnNearsRow.laid) (((OpenSpec.ofChange Rows.fnNearsSpec).at F).post enc Tryd.prog Tryd.f3 false true false false) := by
  obtain ⟨places, hx⟩ := reads os enc
  refine returnsInHanded_of_row (C := Tryd.checked) (s := OpenSpec.ofChange Rows.fnNearsSpec) own started (by kernel_rfl) Tryd.func3
    (witness_row_at (enc := enc) (C := Tryd.checked) false (laidWorldS os) #[.slice none 0 0] rfl (by kernel_rfl) (by kernel_rfl) (by kernel_rfl)
      (OpenSpec.preRow_of_cond 8 hx (by kernel_rfl) (fun k hk => by cases hk) (by kernel_rfl) (laid_met os))) ?_
  intro W base args ds gs before hval hW _ _ _ hL hS _
  exact contract H enc W base args ds gs before hval hW hL hS

theorem said : Rows.FnNearsSaid :=
  OpenClaim.holds_of_cond 3 Tryd.f3 rfl rfl rfl rfl rfl rfl rfl ⟨rfl, rfl, rfl, rfl, rfl⟩ rfl rfl rfl rfl rfl (by kernel_rfl) Tryd.func3 (by kernel_rfl)
    (of_decide_eq_true (by kernel_rfl)) (by unfold Func.isWrapper; first | (rw [if_pos (by decide +kernel)]; kernel_rfl) | (rw [if_neg (by decide +kernel)]; exact ⟨rfl, rfl⟩))
    (fun os started H enc _ F => by rw [OpenClaim.pre_eq_preRow]; exact lifted os started H enc F)

theorem plain (f : FuncId) (fn : Func) (hf : Tryd.pinned.checked.prog.funcNamed "loop.example/g03101/laws.FnNears" = some f) (hfn : Tryd.pinned.checked.prog.funcs[f]? = some fn) :
    false = Tryd.pinned.checked.prog.looks [] ∧ ∀ (j : Nat) t, fn.params[j]? = some t → Tryd.pinned.checked.prog.wantsStandIn t = false := by
  obtain rfl : f = 3 := Option.some.inj ((show Tryd.prog.funcNamed "loop.example/g03101/laws.FnNears" = some 3 by kernel_rfl).symm.trans hf) |>.symm
  obtain rfl : fn = Tryd.f3 := (Option.some.inj (Tryd.func3.symm.trans hfn)).symm
  refine ⟨by kernel_rfl, fun j t ht => ?_⟩
  rw [Tryd.params3] at ht
  obtain rfl : t = 22 := by simpa using Array.mem_of_getElem? ht
  exact (show Tryd.prog.wantsStandIn 22 = false by kernel_rfl)

theorem card : Rows.FnNearsCardSaid :=
  Claim7.holds_tied_plain_at .later [] _ _ _ _ said (fun _ h => by cases h) (by kernel_rfl) (fun _ h => by cases h) fnNears_row_tie rfl ⟨rfl, rfl⟩ (by kernel_rfl) rfl plain (by kernel_rfl)
end Go.Proofs.YtichenjbkclljaaDoor.fnNears
