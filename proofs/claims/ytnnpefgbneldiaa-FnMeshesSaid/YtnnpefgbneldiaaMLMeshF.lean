/-
  For every code the law FnMeshes answers true and leaves its argument as it was: shading leaves fewer occurrences, joined places are shaded columns, and meshes are turned with the permutation.
  Conditions: none beyond the row's own (what is read lies within the row's reach).
-/
import Derived.Test.YtnnpefgbneldiaaB11
import Derived.Test.YtnnpefgbneldiaaB13
import Derived.Test.YtnnpefgbneldiaaB14
import Derived.Test.YtnnpefgbneldiaaB12
import Derived.Test.YtnnpefgbneldiaaB9
import Derived.Test.YtnnpefgbneldiaaB7
import Derived.Test.YtnnpefgbneldiaaB3
import Derived.Test.YtnnpefgbneldiaaB4
import Derived.Deep.RegionHeld3
import Derived.BigQuiet

















namespace Go.Proofs.Ytnnpefgbneldiaa.fnMeshes
set_option maxRecDepth 100000
open Go.RowKit Go.ChangeShapes Go.WideShapes Go.ChangeAt

theorem keep10 {wr w : World} {p0 : Addr} {v0 : Value} {p1 : Addr} {v1 : Value} {p2 : Addr} {v2 : Value} {p3 : Addr} {v3 : Value} {p4 : Addr} {v4 : Value} {p5 : Addr} {v5 : Value} {p6 : Addr} {v6 : Value} {p7 : Addr} {v7 : Value} {p8 : Addr} {v8 : Value} {p9 : Addr} {v9 : Value} (h0 : wr.cell? p0 = some v0) (h1 : wr.cell? p1 = some v1) (h2 : wr.cell? p2 = some v2) (h3 : wr.cell? p3 = some v3) (h4 : wr.cell? p4 = some v4) (h5 : wr.cell? p5 = some v5) (h6 : wr.cell? p6 = some v6) (h7 : wr.cell? p7 = some v7) (h8 : wr.cell? p8 = some v8) (h9 : wr.cell? p9 = some v9) (l0 : p0.block < wr.heap.size) (l1 : p1.block < wr.heap.size) (l2 : p2.block < wr.heap.size) (l3 : p3.block < wr.heap.size) (l4 : p4.block < wr.heap.size) (l5 : p5.block < wr.heap.size) (l6 : p6.block < wr.heap.size) (l7 : p7.block < wr.heap.size) (l8 : p8.block < wr.heap.size) (l9 : p9.block < wr.heap.size) (hb : Below wr.heap.size wr w) : w.cell? p0 = some v0 ∧ w.cell? p1 = some v1 ∧ w.cell? p2 = some v2 ∧ w.cell? p3 = some v3 ∧ w.cell? p4 = some v4 ∧ w.cell? p5 = some v5 ∧ w.cell? p6 = some v6 ∧ w.cell? p7 = some v7 ∧ w.cell? p8 = some v8 ∧ w.cell? p9 = some v9 ∧ Below wr.heap.size wr w :=
  ⟨(hb.cell l0).trans h0, (hb.cell l1).trans h1, (hb.cell l2).trans h2, (hb.cell l3).trans h3, (hb.cell l4).trans h4, (hb.cell l5).trans h5, (hb.cell l6).trans h6, (hb.cell l7).trans h7, (hb.cell l8).trans h8, (hb.cell l9).trans h9, hb⟩
theorem keep4 {wr w : World} {p0 : Addr} {v0 : Value} {p1 : Addr} {v1 : Value} {p2 : Addr} {v2 : Value} {p3 : Addr} {v3 : Value} (h0 : wr.cell? p0 = some v0) (h1 : wr.cell? p1 = some v1) (h2 : wr.cell? p2 = some v2) (h3 : wr.cell? p3 = some v3) (l0 : p0.block < wr.heap.size) (l1 : p1.block < wr.heap.size) (l2 : p2.block < wr.heap.size) (l3 : p3.block < wr.heap.size) (hb : Below wr.heap.size wr w) : w.cell? p0 = some v0 ∧ w.cell? p1 = some v1 ∧ w.cell? p2 = some v2 ∧ w.cell? p3 = some v3 ∧ Below wr.heap.size wr w :=
  ⟨(hb.cell l0).trans h0, (hb.cell l1).trans h1, (hb.cell l2).trans h2, (hb.cell l3).trans h3, hb⟩
theorem inf_arg {w : World} {B n c : Nat} {A : Option Addr} {pv : Value} {p : List Int} {pss : List (List Int)} (h : InfAt w B (.slice A n c) pv p pss) (hn : n ≤ 1048576) (hs : Small p) : Arg w w.heap.size A n c p := h.row.arg hn h.row.cap hs
theorem inf_rows {w : World} {B n c : Nat} {A : Option Addr} {rv : Value} {p : List Int} {pss : List (List Int)} (h : InfAt w B rv (.slice A n c) p pss) (hs : ∀ z ∈ pss, z.length ≤ 1048576 ∧ Small z) : AtS w A n pss := h.pcs.intsS.atS hs
theorem sisperm_below (A : Option Addr) (n c B : Nat) (zs : List Int) (b : Bool) (w : World) (hb : isP zs = b) (h : Arg w B A n c zs) :
    Calls Try.prog 51 #[.slice A n c] w fun e w' => e = .returned (.bool b) ∧ Below w.heap.size w w' :=
  (sisperm_any A n c B zs b hb w h.reads h.le h.cap).mono fun _ _ ⟨he, hd⟩ => ⟨he, hd.below _⟩
set_option maxRecDepth 100000 in
set_option maxHeartbeats 25600000 in
theorem walk (A : Option Addr) (n c : Nat) (bs : List UInt8) (w : World) (hr : Reads w w.heap.size A n (u8s bs)) (hn : n ≤ maxLen) :
    Calls Try.prog 11 #[.slice A n c] w fun e w' => e = .returned (.bool true) ∧ Below w.heap.size w w' := by
  unfold maxLen at hn
  have HG := hide (big_any A n c hn w)
  by_cases hbig : n ≤ 1048576
  · rw [show decide (1048576 < n) = false from decide_eq_false (by omega)] at HG
    go_enter Try.func11, Try.ntmps11
    go_wp2_with fail
    refine (unhide HG).mono ?_
    rintro e w0 ⟨rfl, rfl⟩
    clear HG
    have hb := Below.refl w.heap.size w
    go_wp2_with fail
    refine (dcntm_any A n c w.heap.size bs w (hr.below hb) hbig hb.size).mono ?_
    rintro e w1 ⟨A_p, c_p, p, A_m, c_m, q, P_m, d_m, S, rfl, l_p, l_q, l_S, o_p, o_m, d⟩
    replace hb := below_after hb d
    clear d
    replace l_p := hide l_p
    replace l_q := hide l_q
    replace l_S := hide l_S
    obtain ⟨z, hz⟩ : ∃ z, z = numMesh p q S := ⟨_, rfl⟩
    obtain ⟨ok2, hok2⟩ : ∃ ok, ok = meshOK q S := ⟨_, rfl⟩
    have HZ := hide hz
    have HK2 := hide hok2
    clear hz hok2
    go_wp2_with fail
    obtain ⟨w2, hw⟩ : ∃ W : World, W = w1.alloc (.cells #[.slice A_m (q).length c_m, .slice P_m (S).length d_m] 47) := ⟨_, rfl⟩
    rw [← hw]
    have d : Below w1.heap.size w1 w2 := by rw [hw]; exact (Below.refl _ _).alloc (Nat.le_refl _) _
    obtain ⟨b_m, hbl⟩ : ∃ b, b = w1.heap.size := ⟨_, rfl⟩
    have k_m : Whole w2 b_m 47 #[.slice A_m (q).length c_m, .slice P_m (S).length d_m] := by rw [hw, hbl]; exact Whole.new _ _ _
    rw [← hbl]
    clear hw hbl
    replace o_p := o_p.below d
    replace o_m := o_m.below d
    replace hb := below_after hb d
    clear d
    have H1 := hide (icntm_any A_p A_m P_m _ c_p _ _ c_m _ _ d_m p q S w2 ((unhide l_p).arg o_p (by omega)) (inf_arg o_m (by have := (unhide l_q).1; omega) (unhide l_q).2) (inf_rows o_m (fun z hz => ⟨Nat.le_trans ((unhide l_S).2 z hz).1 (by omega), ((unhide l_S).2 z hz).2⟩)) (by have := (unhide l_S).1; omega))
    rw [← unhide HZ] at H1
    refine (unhide H1).mono ?_
    rintro e w3 ⟨rfl, d⟩
    replace o_p := o_p.below d
    replace o_m := o_m.below d
    replace k_m := k_m.below d k_m.lt
    replace hb := below_after hb d
    clear d
    clear H1
    go_wp2_with fail
    refine (dmof_any A n c w.heap.size bs w3 (hr.below hb) hbig hb.size).mono ?_
    rintro e w4 ⟨A_x, c_x, P_x, d_x, q2, J, rfl, l_q2, l_J, o_x, d⟩
    replace o_p := o_p.below d
    replace o_m := o_m.below d
    replace k_m := k_m.below d k_m.lt
    replace hb := below_after hb d
    clear d
    replace l_q2 := hide l_q2
    replace l_J := hide l_J
    obtain ⟨ok1, hok1⟩ : ∃ ok, ok = mofOK q2 J := ⟨_, rfl⟩
    have HK1 := hide hok1
    clear hok1
    go_wp2_with fail
    obtain ⟨w5, hw⟩ : ∃ W : World, W = w4.alloc (.cells #[.slice A_x (q2).length c_x, .slice P_x (J).length d_x] 52) := ⟨_, rfl⟩
    rw [← hw]
    have d : Below w4.heap.size w4 w5 := by rw [hw]; exact (Below.refl _ _).alloc (Nat.le_refl _) _
    obtain ⟨b_x, hbl⟩ : ∃ b, b = w4.heap.size := ⟨_, rfl⟩
    have k_x : Whole w5 b_x 52 #[.slice A_x (q2).length c_x, .slice P_x (J).length d_x] := by rw [hw, hbl]; exact Whole.new _ _ _
    rw [← hbl]
    clear hw hbl
    replace o_p := o_p.below d
    replace o_m := o_m.below d
    replace o_x := o_x.below d
    replace k_m := k_m.below d k_m.lt
    replace hb := below_after hb d
    clear d
    have H1 := hide (imof_any A_x P_x _ c_x _ _ d_x _ q2 J w5 ((unhide l_q2).arg o_x.p (by omega)) ((unhide l_J).arg o_x.j (by omega)))
    rw [← unhide HK1] at H1
    refine (unhide H1).mono ?_
    rintro e w6 ⟨A_a, c_a, P_a, d_a, rfl, o_a, d⟩
    replace o_p := o_p.below d
    replace o_m := o_m.below d
    replace o_x := o_x.below d
    replace k_m := k_m.below d k_m.lt
    replace k_x := k_x.below d k_x.lt
    replace hb := below_after hb d
    clear d
    clear H1
    have q0_x := k_x.cell 0
    have q1_x := k_x.cell 1
    have q2_x := k_x.lt
    simp only [List.getElem?_toArray, List.getElem?_cons_zero, List.getElem?_cons_succ] at q0_x q1_x
    go_wp2_with fail
    clear q0_x q1_x q2_x
    obtain ⟨w7, hw⟩ : ∃ W : World, W = w6.alloc (.cells #[.slice A_a (mofQ q2 J).length c_a, .slice P_a (mofS q2 J).length d_a] 47) := ⟨_, rfl⟩
    rw [← hw]
    have d : Below w6.heap.size w6 w7 := by rw [hw]; exact (Below.refl _ _).alloc (Nat.le_refl _) _
    obtain ⟨b_a, hbl⟩ : ∃ b, b = w6.heap.size := ⟨_, rfl⟩
    have k_a : Whole w7 b_a 47 #[.slice A_a (mofQ q2 J).length c_a, .slice P_a (mofS q2 J).length d_a] := by rw [hw, hbl]; exact Whole.new _ _ _
    rw [← hbl]
    clear hw hbl
    replace o_p := o_p.below d
    replace o_m := o_m.below d
    replace o_x := o_x.below d
    replace o_a := o_a.below d
    replace k_m := k_m.below d k_m.lt
    replace k_x := k_x.below d k_x.lt
    replace hb := below_after hb d
    clear d
    have H1 := hide (smof_any A_x P_x _ c_x _ _ d_x _ q2 J w7 ((unhide l_q2).arg o_x.p (by omega)) ((unhide l_J).arg o_x.j (by omega)))
    rw [← unhide HK1] at H1
    refine (unhide H1).mono ?_
    rintro e w8 ⟨A_b, c_b, P_b, d_b, rfl, o_b, d⟩
    replace o_p := o_p.below d
    replace o_m := o_m.below d
    replace o_x := o_x.below d
    replace o_a := o_a.below d
    replace k_m := k_m.below d k_m.lt
    replace k_x := k_x.below d k_x.lt
    replace k_a := k_a.below d k_a.lt
    replace hb := below_after hb d
    clear d
    clear H1
    have q0_m := k_m.cell 0
    have q1_m := k_m.cell 1
    have q2_m := k_m.lt
    simp only [List.getElem?_toArray, List.getElem?_cons_zero, List.getElem?_cons_succ] at q0_m q1_m
    go_wp2_with fail
    clear q0_m q1_m q2_m
    obtain ⟨w9, hw⟩ : ∃ W : World, W = w8.alloc (.cells #[.slice A_b (mofQ q2 J).length c_b, .slice P_b (mofS q2 J).length d_b] 47) := ⟨_, rfl⟩
    rw [← hw]
    have d : Below w8.heap.size w8 w9 := by rw [hw]; exact (Below.refl _ _).alloc (Nat.le_refl _) _
    obtain ⟨b_b, hbl⟩ : ∃ b, b = w8.heap.size := ⟨_, rfl⟩
    have k_b : Whole w9 b_b 47 #[.slice A_b (mofQ q2 J).length c_b, .slice P_b (mofS q2 J).length d_b] := by rw [hw, hbl]; exact Whole.new _ _ _
    rw [← hbl]
    clear hw hbl
    replace o_p := o_p.below d
    replace o_m := o_m.below d
    replace o_x := o_x.below d
    replace o_a := o_a.below d
    replace o_b := o_b.below d
    replace k_m := k_m.below d k_m.lt
    replace k_x := k_x.below d k_x.lt
    replace k_a := k_a.below d k_a.lt
    replace hb := below_after hb d
    clear d
    have H1 := hide (iinvm_any A_m P_m _ c_m _ _ d_m q S w9 (inf_arg o_m (by have := (unhide l_q).1; omega) (unhide l_q).2) (inf_rows o_m (fun z hz => ⟨Nat.le_trans ((unhide l_S).2 z hz).1 (by omega), ((unhide l_S).2 z hz).2⟩)) (by have := (unhide l_S).1; omega))
    rw [← unhide HK2] at H1
    refine (unhide H1).mono ?_
    rintro e w10 ⟨A_i, c_i, P_i, d_i, rfl, o_i, d⟩
    replace o_p := o_p.below d
    replace o_m := o_m.below d
    replace o_x := o_x.below d
    replace o_a := o_a.below d
    replace o_b := o_b.below d
    replace k_m := k_m.below d k_m.lt
    replace k_x := k_x.below d k_x.lt
    replace k_a := k_a.below d k_a.lt
    replace k_b := k_b.below d k_b.lt
    replace hb := below_after hb d
    clear d
    clear H1
    have q0_m := k_m.cell 0
    have q1_m := k_m.cell 1
    have q2_m := k_m.lt
    simp only [List.getElem?_toArray, List.getElem?_cons_zero, List.getElem?_cons_succ] at q0_m q1_m
    go_wp2_with fail
    clear q0_m q1_m q2_m
    obtain ⟨w11, hw⟩ : ∃ W : World, W = w10.alloc (.cells #[.slice A_i (miQ q S).length c_i, .slice P_i (miS q S).length d_i] 47) := ⟨_, rfl⟩
    rw [← hw]
    have d : Below w10.heap.size w10 w11 := by rw [hw]; exact (Below.refl _ _).alloc (Nat.le_refl _) _
    obtain ⟨b_i, hbl⟩ : ∃ b, b = w10.heap.size := ⟨_, rfl⟩
    have k_i : Whole w11 b_i 47 #[.slice A_i (miQ q S).length c_i, .slice P_i (miS q S).length d_i] := by rw [hw, hbl]; exact Whole.new _ _ _
    rw [← hbl]
    clear hw hbl
    replace o_p := o_p.below d
    replace o_m := o_m.below d
    replace o_x := o_x.below d
    replace o_a := o_a.below d
    replace o_b := o_b.below d
    replace o_i := o_i.below d
    replace k_m := k_m.below d k_m.lt
    replace k_x := k_x.below d k_x.lt
    replace k_a := k_a.below d k_a.lt
    replace k_b := k_b.below d k_b.lt
    replace hb := below_after hb d
    clear d
    have H1 := hide (sinvm_any A_m P_m _ c_m _ _ d_m q S w11 (inf_arg o_m (by have := (unhide l_q).1; omega) (unhide l_q).2) (inf_rows o_m (fun z hz => ⟨Nat.le_trans ((unhide l_S).2 z hz).1 (by omega), ((unhide l_S).2 z hz).2⟩)) (by have := (unhide l_S).1; omega))
    rw [← unhide HK2] at H1
    refine (unhide H1).mono ?_
    rintro e w12 ⟨A_j, c_j, P_j, d_j, rfl, o_j, d⟩
    replace o_p := o_p.below d
    replace o_m := o_m.below d
    replace o_x := o_x.below d
    replace o_a := o_a.below d
    replace o_b := o_b.below d
    replace o_i := o_i.below d
    replace k_m := k_m.below d k_m.lt
    replace k_x := k_x.below d k_x.lt
    replace k_a := k_a.below d k_a.lt
    replace k_b := k_b.below d k_b.lt
    replace k_i := k_i.below d k_i.lt
    replace hb := below_after hb d
    clear d
    clear H1
    have q0_m := k_m.cell 0
    have q1_m := k_m.cell 1
    have q2_m := k_m.lt
    simp only [List.getElem?_toArray, List.getElem?_cons_zero, List.getElem?_cons_succ] at q0_m q1_m
    go_wp2
    clear q0_m q1_m q2_m
    obtain ⟨w13, hw⟩ : ∃ W : World, W = w12.alloc (.cells #[.slice A_j (miQ q S).length c_j, .slice P_j (miS q S).length d_j] 47) := ⟨_, rfl⟩
    rw [← hw]
    have d : Below w12.heap.size w12 w13 := by rw [hw]; exact (Below.refl _ _).alloc (Nat.le_refl _) _
    obtain ⟨b_j, hbl⟩ : ∃ b, b = w12.heap.size := ⟨_, rfl⟩
    have k_j : Whole w13 b_j 47 #[.slice A_j (miQ q S).length c_j, .slice P_j (miS q S).length d_j] := by rw [hw, hbl]; exact Whole.new _ _ _
    rw [← hbl]
    clear hw hbl
    replace o_p := o_p.below d
    replace o_m := o_m.below d
    replace o_x := o_x.below d
    replace o_a := o_a.below d
    replace o_b := o_b.below d
    replace o_i := o_i.below d
    replace o_j := o_j.below d
    replace k_m := k_m.below d k_m.lt
    replace k_x := k_x.below d k_x.lt
    replace k_a := k_a.below d k_a.lt
    replace k_b := k_b.below d k_b.lt
    replace k_i := k_i.below d k_i.lt
    replace hb := below_after hb d
    clear d
    have HC1 := hide (fun (w' : World) (h : Below w13.heap.size w13 w') => scntm_any A_p A_m P_m _ c_p _ _ c_m _ _ d_m p q S w' (((unhide l_p).arg o_p (by omega)).below h) ((inf_arg o_m (by have := (unhide l_q).1; omega) (unhide l_q).2).below h) ((inf_rows o_m (fun z hz => ⟨Nat.le_trans ((unhide l_S).2 z hz).1 (by omega), ((unhide l_S).2 z hz).2⟩)).below h) (by have := (unhide l_S).1; omega))
    simp only [← unhide HZ] at HC1
    have HC2 := hide (fun (w' : World) (h : Below w13.heap.size w13 w') => samem_any _ _ _ _ _ _ _ _ _ _ _ _ _ _ _ _ w' (o_a.below h) (o_b.below h) (mof_sizes q2 J).1 (mof_sizes q2 J).2.1 (Nat.le_trans (mof_sizes q2 J).2.2 (by omega)))
    have HC3 := hide (fun (w' : World) (h : Below w13.heap.size w13 w') => samem_any _ _ _ _ _ _ _ _ _ _ _ _ _ _ _ _ w' (o_i.below h) (o_j.below h) (mi_sizes q S (by have := (unhide l_S).1; omega)).1 (mi_sizes q S (by have := (unhide l_S).1; omega)).2.1 (Nat.le_trans (mi_sizes q S (by have := (unhide l_S).1; omega)).2.2 (by omega)))
    have HC4 := hide (fun (w' : World) (h : Below w13.heap.size w13 w') => imesh_any A_m P_m _ c_m _ _ d_m q S w' ((inf_arg o_m (by have := (unhide l_q).1; omega) (unhide l_q).2).below h) ((inf_rows o_m (fun z hz => ⟨Nat.le_trans ((unhide l_S).2 z hz).1 (by omega), ((unhide l_S).2 z hz).2⟩)).below h) (by have := (unhide l_S).1; omega))
    simp only [← unhide HK2] at HC4
    have HC5 := hide (fun (w' : World) (h : Below w13.heap.size w13 w') => smesh_any A_m P_m _ c_m _ _ d_m q S w' ((inf_arg o_m (by have := (unhide l_q).1; omega) (unhide l_q).2).below h) ((inf_rows o_m (fun z hz => ⟨Nat.le_trans ((unhide l_S).2 z hz).1 (by omega), ((unhide l_S).2 z hz).2⟩)).below h) (by have := (unhide l_S).1; omega))
    simp only [← unhide HK2] at HC5
    have q0_m := k_m.cell 0
    have q1_m := k_m.cell 1
    have q2_m := k_m.lt
    simp only [List.getElem?_toArray, List.getElem?_cons_zero, List.getElem?_cons_succ] at q0_m q1_m
    have q0_a := k_a.cell 0
    have q1_a := k_a.cell 1
    have q2_a := k_a.lt
    simp only [List.getElem?_toArray, List.getElem?_cons_zero, List.getElem?_cons_succ] at q0_a q1_a
    have q0_b := k_b.cell 0
    have q1_b := k_b.cell 1
    have q2_b := k_b.lt
    simp only [List.getElem?_toArray, List.getElem?_cons_zero, List.getElem?_cons_succ] at q0_b q1_b
    have q0_i := k_i.cell 0
    have q1_i := k_i.cell 1
    have q2_i := k_i.lt
    simp only [List.getElem?_toArray, List.getElem?_cons_zero, List.getElem?_cons_succ] at q0_i q1_i
    have q0_j := k_j.cell 0
    have q1_j := k_j.cell 1
    have q2_j := k_j.lt
    simp only [List.getElem?_toArray, List.getElem?_cons_zero, List.getElem?_cons_succ] at q0_j q1_j
    have hb0 : Below w13.heap.size w13 w13.drew := (Below.refl _ _).drew
    go_wp2
    go_region_held3 (fun w' => w'.cell? ⟨b_m, 0, none⟩ = some (.slice A_m (q).length c_m) ∧ w'.cell? ⟨b_m, 1, none⟩ = some (.slice P_m (S).length d_m) ∧ w'.cell? ⟨b_a, 0, none⟩ = some (.slice A_a (mofQ q2 J).length c_a) ∧ w'.cell? ⟨b_a, 1, none⟩ = some (.slice P_a (mofS q2 J).length d_a) ∧ w'.cell? ⟨b_b, 0, none⟩ = some (.slice A_b (mofQ q2 J).length c_b) ∧ w'.cell? ⟨b_b, 1, none⟩ = some (.slice P_b (mofS q2 J).length d_b) ∧ w'.cell? ⟨b_i, 0, none⟩ = some (.slice A_i (miQ q S).length c_i) ∧ w'.cell? ⟨b_i, 1, none⟩ = some (.slice P_i (miS q S).length d_i) ∧ w'.cell? ⟨b_j, 0, none⟩ = some (.slice A_j (miQ q S).length c_j) ∧ w'.cell? ⟨b_j, 1, none⟩ = some (.slice P_j (miS q S).length d_j) ∧ Below w13.heap.size w13 w') ((refine keep10 q0_m q1_m q0_a q1_a q0_b q1_b q0_i q1_i q0_j q1_j q2_m q2_m q2_a q2_a q2_b q2_b q2_i q2_i q2_j q2_j ?_; first | assumption | (apply Below.drew; assumption)))
      (first
        | (have g0 := hb0; clear hb0; go_simp; go_at_call 47; refine (unhide HC1 _ g0).mono ?_; rintro e v1 ⟨rfl, y0⟩; have hb1 := below_after g0 y0)
        | (have g1 := hb1; clear hb1; go_simp; go_at_call 48; refine (unhide HC2 _ g1).mono ?_; rintro e v2 ⟨rfl, y1⟩; have hb2 := below_after g1 y1)
        | (have g2 := hb2; clear hb2; go_simp; go_at_call 48; refine (unhide HC3 _ g2).mono ?_; rintro e v3 ⟨rfl, y2⟩; have hb3 := below_after g2 y2)
        | (have g3 := hb3; clear hb3; go_simp; go_at_call 49; refine (unhide HC4 _ g3).mono ?_; rintro e v4 ⟨rfl, y3⟩; have hb4 := below_after g3 y3)
        | (have g4 := hb4; clear hb4; go_simp; go_at_call 50; refine (unhide HC5 _ g4).mono ?_; rintro e w14 ⟨rfl, y4⟩; have hb5 := below_after g4 y4))
    have d := hb5
    clear hb5
    clear q0_m q1_m q2_m q0_a q1_a q2_a q0_b q1_b q2_b q0_i q1_i q2_i q0_j q1_j q2_j
    replace o_p := o_p.below d
    replace o_m := o_m.below d
    replace o_x := o_x.below d
    replace o_a := o_a.below d
    replace o_b := o_b.below d
    replace o_i := o_i.below d
    replace o_j := o_j.below d
    replace k_m := k_m.below d k_m.lt
    replace k_x := k_x.below d k_x.lt
    replace k_a := k_a.below d k_a.lt
    replace k_b := k_b.below d k_b.lt
    replace k_i := k_i.below d k_i.lt
    replace k_j := k_j.below d k_j.lt
    replace hb := below_after hb d
    clear d
    clear HC1 HC2 HC3 HC4 HC5
    clear o_b k_b
    clear o_j k_j
    obtain ⟨bp, hbp⟩ : ∃ b, isP p = b := ⟨_, rfl⟩
    cases ok1 with
    | false =>
      cases bp with
      | false =>
        have HP := hide hbp
        clear hbp
        have q0_m := k_m.cell 0
        have q1_m := k_m.cell 1
        have q2_m := k_m.lt
        simp only [List.getElem?_toArray, List.getElem?_cons_zero, List.getElem?_cons_succ] at q0_m q1_m
        have q0_a := k_a.cell 0
        have q1_a := k_a.cell 1
        have q2_a := k_a.lt
        simp only [List.getElem?_toArray, List.getElem?_cons_zero, List.getElem?_cons_succ] at q0_a q1_a
        have q0_x := k_x.cell 0
        have q1_x := k_x.cell 1
        have q2_x := k_x.lt
        simp only [List.getElem?_toArray, List.getElem?_cons_zero, List.getElem?_cons_succ] at q0_x q1_x
        go_wp2
        go_quiet (fail)
        clear q0_m q1_m q2_m q0_a q1_a q2_a q0_x q1_x q2_x
        obtain ⟨w15, hwn⟩ : ∃ W : World, W = w14.drewN nq := ⟨_, rfl⟩
        have d : Below w14.heap.size w14 w15 := by rw [hwn]; exact (Drew.refl _ |>.more nq).below _
        rw [← hwn]
        clear hwn
        replace o_p := o_p.below d
        replace o_m := o_m.below d
        replace o_x := o_x.below d
        replace o_a := o_a.below d
        replace o_i := o_i.below d
        replace k_m := k_m.below d k_m.lt
        replace k_x := k_x.below d k_x.lt
        replace k_a := k_a.below d k_a.lt
        replace k_i := k_i.below d k_i.lt
        replace hb := below_after hb d
        clear d
        obtain rfl : z = -1 := (unhide HZ).trans (numMesh_no (.inl (unhide HP)))
        clear o_p
        clear o_m k_m
        clear o_x k_x
        clear o_a k_a
        clear o_i k_i
        go_wp2
        go_ret
        exact ⟨rfl, hb⟩
      | true =>
        have HP := hide hbp
        clear hbp
        have q0_m := k_m.cell 0
        have q1_m := k_m.cell 1
        have q2_m := k_m.lt
        simp only [List.getElem?_toArray, List.getElem?_cons_zero, List.getElem?_cons_succ] at q0_m q1_m
        have q0_a := k_a.cell 0
        have q1_a := k_a.cell 1
        have q2_a := k_a.lt
        simp only [List.getElem?_toArray, List.getElem?_cons_zero, List.getElem?_cons_succ] at q0_a q1_a
        have q0_x := k_x.cell 0
        have q1_x := k_x.cell 1
        have q2_x := k_x.lt
        simp only [List.getElem?_toArray, List.getElem?_cons_zero, List.getElem?_cons_succ] at q0_x q1_x
        go_wp2
        go_quiet (fail)
        clear q0_m q1_m q2_m q0_a q1_a q2_a q0_x q1_x q2_x
        obtain ⟨w15, hwn⟩ : ∃ W : World, W = w14.drewN nq := ⟨_, rfl⟩
        have d : Below w14.heap.size w14 w15 := by rw [hwn]; exact (Drew.refl _ |>.more nq).below _
        rw [← hwn]
        clear hwn
        replace o_p := o_p.below d
        replace o_m := o_m.below d
        replace o_x := o_x.below d
        replace o_a := o_a.below d
        replace o_i := o_i.below d
        replace k_m := k_m.below d k_m.lt
        replace k_x := k_x.below d k_x.lt
        replace k_a := k_a.below d k_a.lt
        replace k_i := k_i.below d k_i.lt
        replace hb := below_after hb d
        clear d
        cases ok2 with
        | false =>
          obtain rfl : z = -1 := (unhide HZ).trans (numMesh_no (.inr (unhide HK2).symm))
          clear o_p
          clear o_m k_m
          clear o_x k_x
          clear o_a k_a
          clear o_i k_i
          go_wp2
          go_ret
          exact ⟨rfl, hb⟩
        | true =>
          clear o_x k_x
          clear o_a k_a
          obtain ⟨M, hM⟩ : ∃ M, M = (meshR p q S).length := ⟨_, rfl⟩
          obtain ⟨O, hO⟩ : ∃ O, O = (occR p q).length := ⟨_, rfl⟩
          have hp := unhide HP
          have hk2 := (unhide HK2).symm
          obtain rfl : z = (M : Int) := (unhide HZ).trans (by rw [hM]; exact numMesh_yes hp hk2)
          have hle := mesh_le_num hp hk2
          rw [← hM, ← hO] at hle
          have HI := hide (inv_num hp hk2)
          rw [← hM] at HI
          obtain ⟨hE, hle2⟩ := hle
          have HE := hide hE
          clear hM hO hp hk2 hE
          go_wp2_with fail
          refine (sinv_any A_p _ c_p _ p true (unhide HP) w15 ((unhide l_p).arg o_p (by omega))).mono ?_
          rintro e w16 ⟨A_u, c_u, rfl, o_u, d⟩
          replace o_p := o_p.below d
          replace o_m := o_m.below d
          replace o_i := o_i.below d
          replace k_m := k_m.below d k_m.lt
          replace k_i := k_i.below d k_i.lt
          replace hb := below_after hb d
          clear d
          have l_u := hide (show Lite 9 (invR p) from ⟨by have := (invR_small p).1; omega, (invR_small p).2⟩)
          have H1 := hide (scnt_any A_p A_m _ c_p _ _ c_m _ p q w16 ((unhide l_p).arg o_p (by omega)) (inf_arg o_m (by have := (unhide l_q).1; omega) (unhide l_q).2))
          rw [unhide HE] at H1
          have q0_m := k_m.cell 0
          have q1_m := k_m.cell 1
          have q2_m := k_m.lt
          simp only [List.getElem?_toArray, List.getElem?_cons_zero, List.getElem?_cons_succ] at q0_m q1_m
          go_wp2_with fail
          clear q0_m q1_m q2_m
          refine (unhide H1).mono ?_
          rintro e w17 ⟨rfl, d⟩
          replace o_p := o_p.below d
          replace o_u := o_u.below d
          replace o_m := o_m.below d
          replace o_i := o_i.below d
          replace k_m := k_m.below d k_m.lt
          replace k_i := k_i.below d k_i.lt
          replace hb := below_after hb d
          clear d
          clear H1
          have H1 := hide (icntm_any A_u A_i P_i _ c_u _ _ c_i _ _ d_i (invR p) (miQ q S) (miS q S) w17 ((unhide l_u).arg o_u (by omega)) (inf_arg o_i (by have := (mi_small q S).1; omega) (mi_small q S).2) (inf_rows o_i mi_rows) (mi_sizes q S (by have := (unhide l_S).1; omega)).2.1)
          rw [unhide HI] at H1
          have q0_i := k_i.cell 0
          have q1_i := k_i.cell 1
          have q2_i := k_i.lt
          simp only [List.getElem?_toArray, List.getElem?_cons_zero, List.getElem?_cons_succ] at q0_i q1_i
          go_wp2_with fail
          clear q0_i q1_i q2_i
          refine (unhide H1).mono ?_
          rintro e w18 ⟨rfl, d⟩
          replace o_p := o_p.below d
          replace o_u := o_u.below d
          replace o_m := o_m.below d
          replace o_i := o_i.below d
          replace k_m := k_m.below d k_m.lt
          replace k_i := k_i.below d k_i.lt
          replace hb := below_after hb d
          clear d
          clear H1
          clear o_p
          clear o_u
          clear o_m k_m
          clear o_i k_i
          go_wp2
          go_ret
          exact ⟨rfl, hb⟩
    | true =>
      cases bp with
      | false =>
        have HP := hide hbp
        clear hbp
        have HR1 := hide (((unhide l_p).arg o_p (by omega))).reads
        have hpl := (((unhide l_p).arg o_p (by omega))).le
        have hpc := (((unhide l_p).arg o_p (by omega))).cap
        go_wp2
        go_quiet ((go_at_call 51; exact Calls.quiet_of (sisperm_any A_p _ c_p _ p false (unhide HP) _ ((unhide HR1).drewN _) hpl hpc)))
        clear HR1 hpl hpc
        obtain ⟨w15, hwn⟩ : ∃ W : World, W = w14.drewN nq := ⟨_, rfl⟩
        have d : Below w14.heap.size w14 w15 := by rw [hwn]; exact (Drew.refl _ |>.more nq).below _
        rw [← hwn]
        clear hwn
        replace o_p := o_p.below d
        replace o_m := o_m.below d
        replace o_x := o_x.below d
        replace o_a := o_a.below d
        replace o_i := o_i.below d
        replace k_m := k_m.below d k_m.lt
        replace k_x := k_x.below d k_x.lt
        replace k_a := k_a.below d k_a.lt
        replace k_i := k_i.below d k_i.lt
        replace hb := below_after hb d
        clear d
        obtain rfl : z = -1 := (unhide HZ).trans (numMesh_no (.inl (unhide HP)))
        clear o_p
        clear o_m k_m
        clear o_x k_x
        clear o_a k_a
        clear o_i k_i
        go_wp2
        go_ret
        exact ⟨rfl, hb⟩
      | true =>
        have HP := hide hbp
        clear hbp
        have HC1 := hide (fun (w' : World) (h : Below w14.heap.size w14 w') => sisperm_below A_p _ c_p _ p true w' (unhide HP) (((unhide l_p).arg o_p (by omega)).below h))
        have hk1 := (unhide HK1).symm
        have hz9 := mof_num (unhide HP) hk1
        obtain ⟨z9, hz9e⟩ : ∃ z9, z9 = numNear p q2 J := ⟨_, rfl⟩
        rw [← hz9e] at hz9
        have HZ9 := hide hz9e
        have HZ8 := hide hz9
        clear hk1 hz9 hz9e
        have HC2 := hide (fun (w' : World) (h : Below w14.heap.size w14 w') => icntm_any A_p A_a P_a _ c_p _ _ c_a _ _ d_a p (mofQ q2 J) (mofS q2 J) w' (((unhide l_p).arg o_p (by omega)).below h) ((inf_arg o_a (mof_sizes q2 J).1 (mof_small q2 J (unhide l_q2).2)).below h) ((inf_rows o_a mof_rows).below h) (mof_sizes q2 J).2.1)
        simp only [unhide HZ8] at HC2
        have HC3 := hide (fun (w' : World) (h : Below w14.heap.size w14 w') => scntn_any A_p A_x P_x _ c_p _ _ c_x _ _ d_x _ p q2 J w' (((unhide l_p).arg o_p (by omega)).below h) (((unhide l_q2).arg o_x.p (by omega)).below h) (((unhide l_J).arg o_x.j (by omega)).below h))
        simp only [← unhide HZ9] at HC3
        have q0_a := k_a.cell 0
        have q1_a := k_a.cell 1
        have q2_a := k_a.lt
        simp only [List.getElem?_toArray, List.getElem?_cons_zero, List.getElem?_cons_succ] at q0_a q1_a
        have q0_x := k_x.cell 0
        have q1_x := k_x.cell 1
        have q2_x := k_x.lt
        simp only [List.getElem?_toArray, List.getElem?_cons_zero, List.getElem?_cons_succ] at q0_x q1_x
        have hb0 : Below w14.heap.size w14 w14.drew := (Below.refl _ _).drew
        go_wp2
        go_region_held3 (fun w' => w'.cell? ⟨b_a, 0, none⟩ = some (.slice A_a (mofQ q2 J).length c_a) ∧ w'.cell? ⟨b_a, 1, none⟩ = some (.slice P_a (mofS q2 J).length d_a) ∧ w'.cell? ⟨b_x, 0, none⟩ = some (.slice A_x (q2).length c_x) ∧ w'.cell? ⟨b_x, 1, none⟩ = some (.slice P_x (J).length d_x) ∧ Below w14.heap.size w14 w') ((refine keep4 q0_a q1_a q0_x q1_x q2_a q2_a q2_x q2_x ?_; first | assumption | (apply Below.drew; assumption)))
          (first
            | (have g0 := hb0; clear hb0; go_simp; go_at_call 51; refine (unhide HC1 _ g0).mono ?_; rintro e v1 ⟨rfl, y0⟩; have hb1 := below_after g0 y0)
            | (have g1 := hb1; clear hb1; go_simp; go_at_call 41; refine (unhide HC2 _ g1).mono ?_; rintro e v2 ⟨rfl, y1⟩; have hb2 := below_after g1 y1)
            | (have g2 := hb2; clear hb2; go_simp; go_at_call 52; refine (unhide HC3 _ g2).mono ?_; rintro e w15 ⟨rfl, y2⟩; have hb3 := below_after g2 y2))
        have d := hb3
        clear hb3
        clear q0_a q1_a q2_a q0_x q1_x q2_x
        replace o_p := o_p.below d
        replace o_m := o_m.below d
        replace o_x := o_x.below d
        replace o_a := o_a.below d
        replace o_i := o_i.below d
        replace k_m := k_m.below d k_m.lt
        replace k_x := k_x.below d k_x.lt
        replace k_a := k_a.below d k_a.lt
        replace k_i := k_i.below d k_i.lt
        replace hb := below_after hb d
        clear d
        clear HC1 HC2 HC3 HZ9 HZ8
        cases ok2 with
        | false =>
          obtain rfl : z = -1 := (unhide HZ).trans (numMesh_no (.inr (unhide HK2).symm))
          clear o_p
          clear o_m k_m
          clear o_x k_x
          clear o_a k_a
          clear o_i k_i
          go_wp2
          go_ret
          exact ⟨rfl, hb⟩
        | true =>
          clear o_x k_x
          clear o_a k_a
          obtain ⟨M, hM⟩ : ∃ M, M = (meshR p q S).length := ⟨_, rfl⟩
          obtain ⟨O, hO⟩ : ∃ O, O = (occR p q).length := ⟨_, rfl⟩
          have hp := unhide HP
          have hk2 := (unhide HK2).symm
          obtain rfl : z = (M : Int) := (unhide HZ).trans (by rw [hM]; exact numMesh_yes hp hk2)
          have hle := mesh_le_num hp hk2
          rw [← hM, ← hO] at hle
          have HI := hide (inv_num hp hk2)
          rw [← hM] at HI
          obtain ⟨hE, hle2⟩ := hle
          have HE := hide hE
          clear hM hO hp hk2 hE
          go_wp2_with fail
          refine (sinv_any A_p _ c_p _ p true (unhide HP) w15 ((unhide l_p).arg o_p (by omega))).mono ?_
          rintro e w16 ⟨A_u, c_u, rfl, o_u, d⟩
          replace o_p := o_p.below d
          replace o_m := o_m.below d
          replace o_i := o_i.below d
          replace k_m := k_m.below d k_m.lt
          replace k_i := k_i.below d k_i.lt
          replace hb := below_after hb d
          clear d
          have l_u := hide (show Lite 9 (invR p) from ⟨by have := (invR_small p).1; omega, (invR_small p).2⟩)
          have H1 := hide (scnt_any A_p A_m _ c_p _ _ c_m _ p q w16 ((unhide l_p).arg o_p (by omega)) (inf_arg o_m (by have := (unhide l_q).1; omega) (unhide l_q).2))
          rw [unhide HE] at H1
          have q0_m := k_m.cell 0
          have q1_m := k_m.cell 1
          have q2_m := k_m.lt
          simp only [List.getElem?_toArray, List.getElem?_cons_zero, List.getElem?_cons_succ] at q0_m q1_m
          go_wp2_with fail
          clear q0_m q1_m q2_m
          refine (unhide H1).mono ?_
          rintro e w17 ⟨rfl, d⟩
          replace o_p := o_p.below d
          replace o_u := o_u.below d
          replace o_m := o_m.below d
          replace o_i := o_i.below d
          replace k_m := k_m.below d k_m.lt
          replace k_i := k_i.below d k_i.lt
          replace hb := below_after hb d
          clear d
          clear H1
          have H1 := hide (icntm_any A_u A_i P_i _ c_u _ _ c_i _ _ d_i (invR p) (miQ q S) (miS q S) w17 ((unhide l_u).arg o_u (by omega)) (inf_arg o_i (by have := (mi_small q S).1; omega) (mi_small q S).2) (inf_rows o_i mi_rows) (mi_sizes q S (by have := (unhide l_S).1; omega)).2.1)
          rw [unhide HI] at H1
          have q0_i := k_i.cell 0
          have q1_i := k_i.cell 1
          have q2_i := k_i.lt
          simp only [List.getElem?_toArray, List.getElem?_cons_zero, List.getElem?_cons_succ] at q0_i q1_i
          go_wp2_with fail
          clear q0_i q1_i q2_i
          refine (unhide H1).mono ?_
          rintro e w18 ⟨rfl, d⟩
          replace o_p := o_p.below d
          replace o_u := o_u.below d
          replace o_m := o_m.below d
          replace o_i := o_i.below d
          replace k_m := k_m.below d k_m.lt
          replace k_i := k_i.below d k_i.lt
          replace hb := below_after hb d
          clear d
          clear H1
          clear o_p
          clear o_u
          clear o_m k_m
          clear o_i k_i
          go_wp2
          go_ret
          exact ⟨rfl, hb⟩
  · rw [show decide (1048576 < n) = true from decide_eq_true (by omega)] at HG
    clear hr hn
    go_enter Try.func11, Try.ntmps11
    go_wp2_with fail
    refine (unhide HG).mono ?_
    rintro e w0 ⟨rfl, rfl⟩
    go_wp2
    go_ret
    exact ⟨rfl, Below.refl _ _⟩
theorem params_ok : ∀ t ∈ (#[22] : Array TypeId).toList, Try.prog.readableRec t = true ∧ t < Try.prog.types.size := by
  intro t ht
  simp only [List.mem_cons, List.not_mem_nil, or_false] at ht
  subst ht
  exact ⟨by kernel_rfl, of_decide_eq_true (by kernel_rfl)⟩

set_option maxRecDepth 100000 in
/-- WHAT THE WALK GIVES, FOR EVERY ARGUMENT. -/
theorem contract (H : Type) (enc : TypeId × Value → H) (W : World) (base : Nat) (args : Array Value) (ds gs : List (DataW H)) (before : List MemPlace)
    (hval : ∀ (j : Nat) t v, Try.f11.params[j]? = some t → args[j]? = some v → Value.okWide Try.prog W .any base t v)
    (hW : DataW.Whole enc Try.prog Try.f11.params.toList Rows.fnMeshesSpec.vars false W args.toList ds gs before) :
    Calls Try.prog 11 args W fun e W' => ∃ v, e = .returned v ∧ Rows.fnMeshesSpec.post enc Try.prog Try.f11 false true false false W args v W' := by
  have hW' := hW
  obtain ⟨p, q, hA0, hV, rfl, hfz, hnd⟩ := hW
  have hA : DataW.TrodAll enc Try.prog W 0 (fun _ => true) true Try.f11.params.toList args.toList ds p := hA0
  rw [Try.params11] at hA hval
  obtain ⟨v0, d0, rfl, rfl, h0⟩ := trodAll_one hA
  obtain ⟨rfl, rfl⟩ := trodVars_none hV
  obtain ⟨Abs, nbs, cbs, bs, rfl, hrbs, hnbs⟩ := open_bytes_reads Try.underlying22 Try.underlying5 cellsByte (hval 0 22 v0 rfl rfl) h0 (fun x hx => by simpa using hW'.lt x (by simp [hx]))
  refine (walk Abs nbs cbs bs W hrbs hnbs).mono fun e W' ⟨he, hb⟩ => ?_
  subst he
  exact ⟨_, rfl, law_end laidOut (by rw [Try.params11]; exact params_ok) Try.underlying4 rfl rfl hW' rfl hb⟩

set_option maxRecDepth 100000 in
theorem lifted (os : Os) (started : os.Started) (H : Type) (enc : TypeId × Value → H) :
    ReturnsInHanded {} Try.checked os 11 .any (Rows.fnMeshesSpec.pre6 enc Try.prog Try.f11 Rows.fnMeshesRow.domain false) (Rows.fnMeshesSpec.post enc Try.prog Try.f11 false true false false) := by
  refine returnsInHanded_of_change (C := Try.checked) own started (by kernel_rfl) Try.func11
    (ChangeSpec.witness6 (enc := enc) (C := Try.checked) false ⟨#[], #[.slice none 0 0], []⟩ 8 (by kernel_rfl) (by kernel_rfl) (by kernel_rfl) (by kernel_rfl)) ?_
  intro W base args ds gs before hval hW _ _
  exact contract H enc W base args ds gs before hval hW

theorem proved : Rows.FnMeshesSaid :=
  OpenClaim.holds_of_wide 11 Try.f11 rfl rfl rfl rfl rfl rfl rfl ⟨rfl, rfl, rfl, rfl, rfl⟩ rfl rfl rfl rfl rfl (by kernel_rfl) Try.func11 (by kernel_rfl)
    (of_decide_eq_true (by kernel_rfl)) (by unfold Func.isWrapper; first | (rw [if_pos (by decide +kernel)]; kernel_rfl) | (rw [if_neg (by decide +kernel)]; exact ⟨rfl, rfl⟩))
    (fun os started H enc _ => lifted os started H enc)
end Go.Proofs.Ytnnpefgbneldiaa.fnMeshes
