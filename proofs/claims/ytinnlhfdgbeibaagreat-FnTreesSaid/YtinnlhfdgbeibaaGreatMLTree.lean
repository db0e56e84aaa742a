/-
  For every code the law FnTrees answers true and leaves its argument as it was: a permutation is the inflation of its root by its parts; separable ones are told by two patterns.
  Conditions: none beyond the row's own (what is read lies within the row's reach).
-/
import Derived.Test.YtinnlhfdgbeibaaGreatB7
import Derived.Test.YtinnlhfdgbeibaaGreatB11
import Derived.Test.YtinnlhfdgbeibaaGreatB9
import Derived.Test.YtinnlhfdgbeibaaGreatB10
import Derived.Test.YtinnlhfdgbeibaaGreatB8
import Derived.Test.YtinnlhfdgbeibaaGreatB5
import Derived.Deep.RegionHeld3















namespace Go.Proofs.YtinnlhfdgbeibaaGreat.fnTrees
set_option maxRecDepth 100000
open Go.RowKit Go.ChangeShapes Go.WideShapes Go.ChangeAt

theorem keep8 {wr w : World} {p0 : Addr} {v0 : Value} {p1 : Addr} {v1 : Value} {p2 : Addr} {v2 : Value} {p3 : Addr} {v3 : Value} {p4 : Addr} {v4 : Value} {p5 : Addr} {v5 : Value} {p6 : Addr} {v6 : Value} {p7 : Addr} {v7 : Value} (h0 : wr.cell? p0 = some v0) (h1 : wr.cell? p1 = some v1) (h2 : wr.cell? p2 = some v2) (h3 : wr.cell? p3 = some v3) (h4 : wr.cell? p4 = some v4) (h5 : wr.cell? p5 = some v5) (h6 : wr.cell? p6 = some v6) (h7 : wr.cell? p7 = some v7) (l0 : p0.block < wr.heap.size) (l1 : p1.block < wr.heap.size) (l2 : p2.block < wr.heap.size) (l3 : p3.block < wr.heap.size) (l4 : p4.block < wr.heap.size) (l5 : p5.block < wr.heap.size) (l6 : p6.block < wr.heap.size) (l7 : p7.block < wr.heap.size) (hb : Below wr.heap.size wr w) : w.cell? p0 = some v0 ∧ w.cell? p1 = some v1 ∧ w.cell? p2 = some v2 ∧ w.cell? p3 = some v3 ∧ w.cell? p4 = some v4 ∧ w.cell? p5 = some v5 ∧ w.cell? p6 = some v6 ∧ w.cell? p7 = some v7 ∧ Below wr.heap.size wr w :=
  ⟨(hb.cell l0).trans h0, (hb.cell l1).trans h1, (hb.cell l2).trans h2, (hb.cell l3).trans h3, (hb.cell l4).trans h4, (hb.cell l5).trans h5, (hb.cell l6).trans h6, (hb.cell l7).trans h7, hb⟩
theorem inf_arg {w : World} {B n c : Nat} {A : Option Addr} {pv : Value} {p : List Int} {pss : List (List Int)} (h : InfAt w B (.slice A n c) pv p pss) (hn : n ≤ 1048576) (hs : Small p) : Arg w w.heap.size A n c p := h.row.arg hn h.row.cap hs
theorem inf_rows {w : World} {B n c : Nat} {A : Option Addr} {rv : Value} {p : List Int} {pss : List (List Int)} (h : InfAt w B rv (.slice A n c) p pss) (hs : ∀ z ∈ pss, z.length ≤ 1048576 ∧ Small z) : AtS w A n pss := h.pcs.intsS.atS hs
theorem sisperm_below (A : Option Addr) (n c B : Nat) (zs : List Int) (b : Bool) (w : World) (hb : isP zs = b) (h : Arg w B A n c zs) :
    Calls Tryz.prog 21 #[.slice A n c] w fun e w' => e = .returned (.bool b) ∧ Below w.heap.size w w' :=
  (sisperm_any A n c B zs b hb w h.reads h.le h.cap).mono fun _ _ ⟨he, hd⟩ => ⟨he, hd.below _⟩
theorem arg_four (w : World) (a b c d : Int) (h : (-9 ≤ a ∧ a ≤ 9) ∧ (-9 ≤ b ∧ b ≤ 9) ∧ (-9 ≤ c ∧ c ≤ 9) ∧ (-9 ≤ d ∧ d ≤ 9)) : Arg (w.alloc (.cells #[.int .i64 a, .int .i64 b, .int .i64 c, .int .i64 d] 3)) (w.heap.size + 1) (some ⟨w.heap.size, 0, none⟩) 4 4 [a, b, c, d] := by
  have hk := Whole.new w 3 #[.int .i64 a, .int .i64 b, .int .i64 c, .int .i64 d]
  refine ⟨⟨rfl, fun _ => ⟨_, rfl, Nat.lt_succ_self _, fun j u hj => ?_⟩⟩, by simp, by omega, Nat.le_refl _, fun z hz => ?_, fun e => by cases e⟩
  · rw [show (⟨w.heap.size, 0, none⟩ : Addr).add j = ⟨w.heap.size, j, none⟩ by unfold Addr.add; split <;> simp_all, hk.cell j, ← hj]
    simp [i64s]
  · simp at hz
    rcases hz with rfl | rfl | rfl | rfl <;> omega
theorem rtsR_tot9 (p : List Int) : tot (rtsR p) ≤ 64 := by
  have h1 := rtsR_len p
  have h2 : ∀ l : List (List Int), (∀ z ∈ l, isP z = true) → tot l ≤ 8 * l.length := fun l => by
    induction l with
    | nil => intro _; simp [tot]
    | cons z l ih =>
      intro h
      have h3 := ih fun y hy => h y (by simp [hy])
      have h4 := isP_le (h z (by simp))
      have h5 : tot (z :: l) = z.length + tot l := by simp [tot]
      rw [List.length_cons]
      omega
  have h3 := h2 (rtsR p) fun z hz => rtsR_all hz
  omega
set_option maxRecDepth 100000 in
set_option maxHeartbeats 25600000 in
theorem walk (A : Option Addr) (n c : Nat) (bs : List UInt8) (w : World) (hr : Reads w w.heap.size A n (u8s bs)) (hn : n ≤ maxLen) :
    Calls Tryz.prog 3 #[.slice A n c] w fun e w' => e = .returned (.bool true) ∧ Below w.heap.size w w' := by
  unfold maxLen at hn
  have HG := hide (big_any A n c hn w)
  by_cases hbig : n ≤ 1048576
  · rw [show decide (1048576 < n) = false from decide_eq_false (by omega)] at HG
    go_enter Tryz.func3, Tryz.ntmps3
    go_wp2_with fail
    refine (unhide HG).mono ?_
    rintro e w0 ⟨rfl, rfl⟩
    clear HG
    have hb := Below.refl w.heap.size w
    go_wp2_with fail
    refine (dsplit_any A n c w.heap.size bs w (hr.below hb) hbig hb.size).mono ?_
    rintro e w1 ⟨A_p, c_p, p, rfl, l_p, o_p, d⟩
    replace hb := below_after hb d
    clear d
    replace l_p := hide l_p
    have L_x := hide (lite_split p)
    obtain ⟨ok, hok⟩ : ∃ b, b = splitOK p := ⟨_, rfl⟩
    obtain ⟨R, hR⟩ : ∃ R, R = rootR p := ⟨_, rfl⟩
    obtain ⟨S, hS⟩ : ∃ S, S = pcsR p := ⟨_, rfl⟩
    rw [← hR, ← hS] at L_x
    have HOK := hide hok
    have HRS := hide (⟨hR, hS⟩ : R = rootR p ∧ S = pcsR p)
    clear hok hR hS
    have H1 := hide (isplit_any A_p _ c_p _ p w1 ((unhide l_p).arg o_p (by omega)))
    rw [← unhide HOK, ← (unhide HRS).1, ← (unhide HRS).2] at H1
    go_wp2_with fail
    refine (unhide H1).mono ?_
    rintro e w2 ⟨A_x, c_x, P_x, d_x, rfl, o_x, d⟩
    replace o_p := o_p.below d
    replace hb := below_after hb d
    clear d
    clear H1
    go_wp2_with fail
    obtain ⟨w3, hw⟩ : ∃ W : World, W = w2.alloc (.cells #[.slice A_x (R).length c_x, .slice P_x (S).length d_x] 28) := ⟨_, rfl⟩
    rw [← hw]
    have d : Below w2.heap.size w2 w3 := by rw [hw]; exact (Below.refl _ _).alloc (Nat.le_refl _) _
    obtain ⟨b_x, hbl⟩ : ∃ b, b = w2.heap.size := ⟨_, rfl⟩
    have k_x : Whole w3 b_x 28 #[.slice A_x (R).length c_x, .slice P_x (S).length d_x] := by rw [hw, hbl]; exact Whole.new _ _ _
    rw [← hbl]
    clear hw hbl
    replace o_p := o_p.below d
    replace o_x := o_x.below d
    replace hb := below_after hb d
    clear d
    have H1 := hide (ssplit_any A_p _ c_p _ p w3 ((unhide l_p).arg o_p (by omega)))
    rw [← unhide HOK, ← (unhide HRS).1, ← (unhide HRS).2] at H1
    refine (unhide H1).mono ?_
    rintro e w4 ⟨A_y, c_y, P_y, d_y, rfl, o_y, d⟩
    replace o_p := o_p.below d
    replace o_x := o_x.below d
    replace k_x := k_x.below d k_x.lt
    replace hb := below_after hb d
    clear d
    clear H1
    go_wp2_with fail
    obtain ⟨w5, hw⟩ : ∃ W : World, W = w4.alloc (.cells #[.slice A_y (R).length c_y, .slice P_y (S).length d_y] 28) := ⟨_, rfl⟩
    rw [← hw]
    have d : Below w4.heap.size w4 w5 := by rw [hw]; exact (Below.refl _ _).alloc (Nat.le_refl _) _
    obtain ⟨b_y, hbl⟩ : ∃ b, b = w4.heap.size := ⟨_, rfl⟩
    have k_y : Whole w5 b_y 28 #[.slice A_y (R).length c_y, .slice P_y (S).length d_y] := by rw [hw, hbl]; exact Whole.new _ _ _
    rw [← hbl]
    clear hw hbl
    replace o_p := o_p.below d
    replace o_x := o_x.below d
    replace o_y := o_y.below d
    replace k_x := k_x.below d k_x.lt
    replace hb := below_after hb d
    clear d
    refine (deqinf_any A n c w.heap.size bs w5 (hr.below hb) hbig hb.size).mono ?_
    rintro e w6 ⟨A_a, c_a, Ra, P_a, d_a, Sa, A_b, c_b, Rb, P_b, d_b, Sb, rfl, L_a, L_b, o_a, o_b, d⟩
    replace o_p := o_p.below d
    replace o_x := o_x.below d
    replace o_y := o_y.below d
    replace k_x := k_x.below d k_x.lt
    replace k_y := k_y.below d k_y.lt
    replace hb := below_after hb d
    clear d
    replace L_a := hide L_a
    replace L_b := hide L_b
    go_wp2_with fail
    obtain ⟨w7, hw⟩ : ∃ W : World, W = (w6.alloc (.cells #[.slice A_a (Ra).length c_a, .slice P_a (Sa).length d_a] 28)).alloc (.cells #[.slice A_b (Rb).length c_b, .slice P_b (Sb).length d_b] 28) := ⟨_, rfl⟩
    rw [← hw]
    have d : Below w6.heap.size w6 w7 := by rw [hw]; exact ((Below.refl _ _).alloc (Nat.le_refl _) _).alloc (by simp) _
    obtain ⟨b_a, hbl⟩ : ∃ b, b = w6.heap.size := ⟨_, rfl⟩
    obtain ⟨b_b, hbl2⟩ : ∃ b, b = w6.heap.size + 1 := ⟨_, rfl⟩
    have k_a : Whole w7 b_a 28 #[.slice A_a (Ra).length c_a, .slice P_a (Sa).length d_a] := by rw [hw, hbl]; exact (Whole.new _ _ _).alloc _
    have k_b : Whole w7 b_b 28 #[.slice A_b (Rb).length c_b, .slice P_b (Sb).length d_b] := by
      rw [hw, hbl2]
      have h9 := Whole.new (w6.alloc (.cells #[.slice A_a (Ra).length c_a, .slice P_a (Sa).length d_a] 28)) 28 #[.slice A_b (Rb).length c_b, .slice P_b (Sb).length d_b]
      rwa [World.size_alloc] at h9
    rw [← hbl2, ← hbl]
    clear hw hbl hbl2
    replace o_p := o_p.below d
    replace o_x := o_x.below d
    replace o_y := o_y.below d
    replace o_a := o_a.below d
    replace o_b := o_b.below d
    replace k_x := k_x.below d k_x.lt
    replace k_y := k_y.below d k_y.lt
    replace hb := below_after hb d
    clear d
    refine (dsep_any A n c w.heap.size bs w7 (hr.below hb) hbig hb.size).mono ?_
    rintro e w8 ⟨A_s, c_s, s, rfl, l_s, o_s, d⟩
    replace o_p := o_p.below d
    replace o_x := o_x.below d
    replace o_y := o_y.below d
    replace o_a := o_a.below d
    replace o_b := o_b.below d
    replace k_x := k_x.below d k_x.lt
    replace k_y := k_y.below d k_y.lt
    replace k_a := k_a.below d k_a.lt
    replace k_b := k_b.below d k_b.lt
    replace hb := below_after hb d
    clear d
    replace l_s := hide l_s
    obtain ⟨beq, hbeq⟩ : ∃ b, (decide (Ra = Rb) && decide (Sa = Sb)) = b := ⟨_, rfl⟩
    have HBE := hide hbeq
    obtain ⟨T, hT⟩ : ∃ T, T = textF 7 p := ⟨_, rfl⟩
    have HT := hide hT
    obtain ⟨D, hD⟩ : ∃ D, D = depF 7 p := ⟨_, rfl⟩
    have HD := hide hD
    obtain ⟨bs_, hbs⟩ : ∃ b, b = sepR s := ⟨_, rfl⟩
    have HBS := hide hbs
    clear hbeq hT hD hbs
    have HXX := hide (show (decide (R = R) && decide (S = S)) = true by simp)
    have HC1 := hide (fun (w' : World) (h : Below w8.heap.size w8 w') => seqinf_any A_x P_x A_y P_y (R).length c_x _ (S).length d_x (R).length c_y _ (S).length d_y R R S S _ (unhide HXX) w' ((inf_arg o_x (by have := (unhide L_x).1.1; omega) (unhide L_x).1.2).below h) ((inf_arg o_y (by have := (unhide L_x).1.1; omega) (unhide L_x).1.2).below h) ((inf_rows o_x (fun z hz => ⟨Nat.le_trans ((unhide L_x).2.2 z hz).1 (by omega), ((unhide L_x).2.2 z hz).2⟩)).below h) ((inf_rows o_y (fun z hz => ⟨Nat.le_trans ((unhide L_x).2.2 z hz).1 (by omega), ((unhide L_x).2.2 z hz).2⟩)).below h) (by have := (unhide L_x).2.1; omega) (by have := (unhide L_x).2.1; omega))
    have HC2 := hide (fun (w' : World) (h : Below w8.heap.size w8 w') => ieqinf_any A_a P_a A_b P_b (Ra).length c_a _ (Sa).length d_a (Rb).length c_b _ (Sb).length d_b Ra Rb Sa Sb _ (unhide HBE) w' ((inf_arg o_a (by have := (unhide L_a).1.1; omega) (unhide L_a).1.2).below h) ((inf_arg o_b (by have := (unhide L_b).1.1; omega) (unhide L_b).1.2).below h) ((inf_rows o_a (fun z hz => ⟨Nat.le_trans ((unhide L_a).2.2 z hz).1 (by omega), ((unhide L_a).2.2 z hz).2⟩)).below h) ((inf_rows o_b (fun z hz => ⟨Nat.le_trans ((unhide L_b).2.2 z hz).1 (by omega), ((unhide L_b).2.2 z hz).2⟩)).below h) (by have := (unhide L_a).2.1; omega) (by have := (unhide L_b).2.1; omega))
    have HC3 := hide (fun (w' : World) (h : Below w8.heap.size w8 w') => seqinf_any A_a P_a A_b P_b (Ra).length c_a _ (Sa).length d_a (Rb).length c_b _ (Sb).length d_b Ra Rb Sa Sb _ (unhide HBE) w' ((inf_arg o_a (by have := (unhide L_a).1.1; omega) (unhide L_a).1.2).below h) ((inf_arg o_b (by have := (unhide L_b).1.1; omega) (unhide L_b).1.2).below h) ((inf_rows o_a (fun z hz => ⟨Nat.le_trans ((unhide L_a).2.2 z hz).1 (by omega), ((unhide L_a).2.2 z hz).2⟩)).below h) ((inf_rows o_b (fun z hz => ⟨Nat.le_trans ((unhide L_b).2.2 z hz).1 (by omega), ((unhide L_b).2.2 z hz).2⟩)).below h) (by have := (unhide L_a).2.1; omega) (by have := (unhide L_b).2.1; omega))
    have HC4 := hide (fun (w' : World) (h : Below w8.heap.size w8 w') => itextW A_p _ c_p _ p w' (((unhide l_p).arg o_p (by omega)).below h))
    simp only [← unhide HT] at HC4
    have HC5 := hide (fun (w' : World) (h : Below w8.heap.size w8 w') => stextW A_p _ c_p _ p w' (((unhide l_p).arg o_p (by omega)).below h))
    simp only [← unhide HT] at HC5
    have HC6 := hide (fun (w' : World) (h : Below w8.heap.size w8 w') => idepthW A_p _ c_p _ p w' (((unhide l_p).arg o_p (by omega)).below h))
    simp only [← unhide HD] at HC6
    have HC7 := hide (fun (w' : World) (h : Below w8.heap.size w8 w') => sdepthW A_p _ c_p _ p w' (((unhide l_p).arg o_p (by omega)).below h))
    simp only [← unhide HD] at HC7
    have HC8 := hide (fun (w' : World) (h : Below w8.heap.size w8 w') => iroots_any A_p _ c_p _ p w' (((unhide l_p).arg o_p (by omega)).below h))
    have HC9 := hide (fun (w' : World) (h : Below w8.heap.size w8 w') => sroots_any A_p _ c_p _ p w' (((unhide l_p).arg o_p (by omega)).below h))
    have HC10 := hide (fun (w' : World) (_ : Below w8.heap.size w8 w') (A8 : Option Addr) (c8 B8 : Nat) (o8 : IntsS w' B8 (.slice A8 (rtsR p).length c8) (rtsR p)) (A9 : Option Addr) (c9 B9 : Nat) (o9 : IntsS w' B9 (.slice A9 (rtsR p).length c9) (rtsR p)) => samess_any A8 A9 _ c8 _ c9 B8 B9 (rtsR p) w' o8 o9 (by have := rtsR_len p; omega) (by have := rtsR_tot9 p; omega))
    have HC11 := hide (fun (w' : World) (h : Below w8.heap.size w8 w') => isep_any A_s _ c_s _ s w' (((unhide l_s).arg o_s (by omega)).below h))
    simp only [← unhide HBS] at HC11
    have HC12 := hide (fun (w' : World) (h : Below w8.heap.size w8 w') => ssep_any A_s _ c_s _ s w' (((unhide l_s).arg o_s (by omega)).below h))
    simp only [← unhide HBS] at HC12
    have q0_x := k_x.cell 0
    have q1_x := k_x.cell 1
    have q2_x := k_x.lt
    simp only [List.getElem?_toArray, List.getElem?_cons_zero, List.getElem?_cons_succ] at q0_x q1_x
    have q0_y := k_y.cell 0
    have q1_y := k_y.cell 1
    have q2_y := k_y.lt
    simp only [List.getElem?_toArray, List.getElem?_cons_zero, List.getElem?_cons_succ] at q0_y q1_y
    have q0_a := k_a.cell 0
    have q1_a := k_a.cell 1
    have q2_a := k_a.lt
    simp only [List.getElem?_toArray, List.getElem?_cons_zero, List.getElem?_cons_succ] at q0_a q1_a
    have q0_b := k_b.cell 0
    have q1_b := k_b.cell 1
    have q2_b := k_b.lt
    simp only [List.getElem?_toArray, List.getElem?_cons_zero, List.getElem?_cons_succ] at q0_b q1_b
    have hb0 : Below w8.heap.size w8 w8.drew := (Below.refl _ _).drew
    go_wp2
    go_region_held3 (fun w' => w'.cell? ⟨b_x, 0, none⟩ = some (.slice A_x (R).length c_x) ∧ w'.cell? ⟨b_x, 1, none⟩ = some (.slice P_x (S).length d_x) ∧ w'.cell? ⟨b_y, 0, none⟩ = some (.slice A_y (R).length c_y) ∧ w'.cell? ⟨b_y, 1, none⟩ = some (.slice P_y (S).length d_y) ∧ w'.cell? ⟨b_a, 0, none⟩ = some (.slice A_a (Ra).length c_a) ∧ w'.cell? ⟨b_a, 1, none⟩ = some (.slice P_a (Sa).length d_a) ∧ w'.cell? ⟨b_b, 0, none⟩ = some (.slice A_b (Rb).length c_b) ∧ w'.cell? ⟨b_b, 1, none⟩ = some (.slice P_b (Sb).length d_b) ∧ Below w8.heap.size w8 w') ((refine keep8 q0_x q1_x q0_y q1_y q0_a q1_a q0_b q1_b q2_x q2_x q2_y q2_y q2_a q2_a q2_b q2_b ?_; first | assumption | (apply Below.drew; assumption)))
      (first
        | (have g0 := hb0; clear hb0; go_simp; go_at_call 10; refine (unhide HC1 _ g0).mono ?_; rintro e v1 ⟨rfl, y0⟩; have hb1 := below_after g0 y0)
        | (have g1 := hb1; clear hb1; go_simp; go_at_call 11; refine (unhide HC2 _ g1).mono ?_; rintro e v2 ⟨rfl, y1⟩; have hb2 := below_after g1 y1)
        | (have g2 := hb2; clear hb2; go_simp; go_at_call 10; refine (unhide HC3 _ g2).mono ?_; rintro e v3 ⟨rfl, y2⟩; have hb3 := below_after g2 y2)
        | (have g3 := hb3; clear hb3; go_simp; go_at_call 12; refine (unhide HC4 _ g3).mono ?_; rintro e v4 ⟨rfl, y3⟩; have hb4 := below_after g3 y3)
        | (have g4 := hb4; clear hb4; go_simp; go_at_call 13; refine (unhide HC5 _ g4).mono ?_; rintro e v5 ⟨rfl, y4⟩; have hb5 := below_after g4 y4)
        | (have g5 := hb5; clear hb5; go_simp; go_at_call 14; refine (unhide HC6 _ g5).mono ?_; rintro e v6 ⟨rfl, y5⟩; have hb6 := below_after g5 y5)
        | (have g6 := hb6; clear hb6; go_simp; go_at_call 15; refine (unhide HC7 _ g6).mono ?_; rintro e v7 ⟨rfl, y6⟩; have hb7 := below_after g6 y6)
        | (have g7 := hb7; clear hb7; go_simp; go_at_call 17; refine (unhide HC8 _ g7).mono ?_; rintro e v8 ⟨A8, c8, rfl, o8, y7⟩; have hb8 := below_after g7 y7)
        | (have g8 := hb8; clear hb8; go_simp; go_at_call 18; refine (unhide HC9 _ g8).mono ?_; rintro e v9 ⟨A9, c9, rfl, o9, y8⟩; have hb9 := below_after g8 y8)
        | (have g9 := hb9; clear hb9; go_simp; go_at_call 16; refine (unhide HC10 _ g9 A8 c8 _ (o8.below y8) A9 c9 _ o9).mono ?_; rintro e v10 ⟨rfl, d0⟩; have y9 := d0.below v9.heap.size; have hb10 := below_after g9 y9)
        | (have g10 := hb10; clear hb10; go_simp; go_at_call 19; refine (unhide HC11 _ g10).mono ?_; rintro e v11 ⟨rfl, y10⟩; have hb11 := below_after g10 y10)
        | (have g11 := hb11; clear hb11; go_simp; go_at_call 20; refine (unhide HC12 _ g11).mono ?_; rintro e w9 ⟨rfl, y11⟩; have hb12 := below_after g11 y11))
    have d := hb12
    clear hb12
    clear q0_x q1_x q2_x q0_y q1_y q2_y q0_a q1_a q2_a q0_b q1_b q2_b
    replace o_p := o_p.below d
    replace o_s := o_s.below d
    replace o_x := o_x.below d
    replace o_y := o_y.below d
    replace o_a := o_a.below d
    replace o_b := o_b.below d
    replace k_x := k_x.below d k_x.lt
    replace k_y := k_y.below d k_y.lt
    replace k_a := k_a.below d k_a.lt
    replace k_b := k_b.below d k_b.lt
    replace hb := below_after hb d
    clear d
    clear HC1 HC2 HC3 HC4 HC5 HC6 HC7 HC8 HC9 HC10 HC11 HC12
    obtain ⟨bp, hbp⟩ : ∃ b, isP s = b := ⟨_, rfl⟩
    have HP0 := hide hbp
    have H1 := hide (sisperm_below A_s _ c_s _ s bp w9 hbp ((unhide l_s).arg o_s (by omega)))
    clear hbp
    cases bp with
    | false =>
      go_wp2_with fail
      refine (unhide H1).mono ?_
      rintro e w10 ⟨rfl, d⟩
      replace o_p := o_p.below d
      replace o_s := o_s.below d
      replace o_x := o_x.below d
      replace o_y := o_y.below d
      replace o_a := o_a.below d
      replace o_b := o_b.below d
      replace k_x := k_x.below d k_x.lt
      replace k_y := k_y.below d k_y.lt
      replace k_a := k_a.below d k_a.lt
      replace k_b := k_b.below d k_b.lt
      replace hb := below_after hb d
      clear d
      clear H1
      cases ok with
      | false =>
        have hT : T = ⟨#[]⟩ := by rw [unhide HT, textF_no (unhide HOK).symm]; rfl
        have H1 := hide (itextW A_p _ c_p _ p w10 ((unhide l_p).arg o_p (by omega)))
        rw [← unhide HT, hT] at H1
        clear hT
        go_wp2_with fail
        refine (unhide H1).mono ?_
        rintro e w11 ⟨rfl, d⟩
        replace o_p := o_p.below d
        replace o_s := o_s.below d
        replace o_x := o_x.below d
        replace o_y := o_y.below d
        replace o_a := o_a.below d
        replace o_b := o_b.below d
        replace k_x := k_x.below d k_x.lt
        replace k_y := k_y.below d k_y.lt
        replace k_a := k_a.below d k_a.lt
        replace k_b := k_b.below d k_b.lt
        replace hb := below_after hb d
        clear d
        clear H1
        clear o_p
        clear o_s
        clear o_x k_x
        clear o_y k_y
        clear o_a k_a
        clear o_b k_b
        go_wp2
        go_ret
        exact ⟨rfl, hb⟩
      | true =>
        clear o_y k_y
        clear o_a k_a
        clear o_b k_b
        have hok := (unhide HOK).symm
        have hpp := splitOK_all hok
        have hI := infl_root hok
        have hRS : R = rootP p ∧ S = pcsP p := ⟨(unhide HRS).1.trans (rootR_yes hok), (unhide HRS).2.trans (pcsR_yes hok)⟩
        rw [← hRS.1, ← hRS.2] at hI
        have HI := hide hI
        have hsr : p.length ≠ 1 → simpleP R = true := fun h1 => by rw [hRS.1]; exact rootP_simple hpp.1 hpp.2 h1
        have hso : simpleP p = true → 4 ≤ p.length → R = p := fun h1 h2 => by rw [hRS.1]; exact root_own h1 h2
        have HSR := hide hsr
        have HSO := hide hso
        clear hok hpp hI hRS hsr hso
        have hp9 : p.length ≤ 9 := (unhide l_p).1
        obtain ⟨N, hN⟩ : ∃ N, N = p.length := ⟨_, rfl⟩
        have HN := hide hN
        rw [← hN] at hp9 o_p ⊢
        clear hN
        have H1 := hide (sinfl_any A_x P_x _ c_x _ _ d_x _ R S w10 (inf_arg o_x (by have := (unhide L_x).1.1; omega) (unhide L_x).1.2) o_x.pcs.intsS (by have := (unhide L_x).2.1; omega) (fun z hz => ⟨Nat.le_trans ((unhide L_x).2.2 z hz).1 (by omega), ((unhide L_x).2.2 z hz).2⟩))
        rw [(unhide HI).1, (unhide HI).2] at H1
        have q0_x := k_x.cell 0
        have q1_x := k_x.cell 1
        have q2_x := k_x.lt
        simp only [List.getElem?_toArray, List.getElem?_cons_zero, List.getElem?_cons_succ] at q0_x q1_x
        go_wp2_with fail
        clear q0_x q1_x q2_x
        refine (unhide H1).mono ?_
        rintro e w11 ⟨A_z, c_z, rfl, o_z, d⟩
        replace o_p := o_p.below d
        replace o_s := o_s.below d
        replace o_x := o_x.below d
        replace k_x := k_x.below d k_x.lt
        replace hb := below_after hb d
        clear d
        clear H1
        obtain ⟨b1, hb1⟩ : ∃ b, b = simpleP R := ⟨_, rfl⟩
        obtain ⟨b2, hb2⟩ : ∃ b, b = simpleP p := ⟨_, rfl⟩
        have HB1 := hide hb1
        have HB2 := hide hb2
        clear hb1 hb2
        go_wp2_with fail
        refine (samei_any _ _ _ _ _ _ _ _ p _ o_z.reads o_p.reads (by have := (unhide l_p).1; omega)).mono ?_
        rintro e w12 ⟨rfl, d0⟩
        have d := d0.below w11.heap.size
        clear d0
        replace o_p := o_p.below d
        replace o_s := o_s.below d
        replace o_z := o_z.below d
        replace o_x := o_x.below d
        replace k_x := k_x.below d k_x.lt
        replace hb := below_after hb d
        clear d
        clear o_z
        have H1 := hide (ssimple_any A_x _ c_x _ R w12 (inf_arg o_x (by have := (unhide L_x).1.1; omega) (unhide L_x).1.2))
        rw [← unhide HB1] at H1
        have q0_x := k_x.cell 0
        have q1_x := k_x.cell 1
        have q2_x := k_x.lt
        simp only [List.getElem?_toArray, List.getElem?_cons_zero, List.getElem?_cons_succ] at q0_x q1_x
        go_wp2_with fail
        clear q0_x q1_x q2_x
        refine (unhide H1).mono ?_
        rintro e w13 ⟨rfl, d⟩
        replace o_p := o_p.below d
        replace o_s := o_s.below d
        replace o_x := o_x.below d
        replace k_x := k_x.below d k_x.lt
        replace hb := below_after hb d
        clear d
        clear H1
        by_cases h1 : N = 1
        · have h1i : ((N : Int) == 1) = true := by rw [h1]; rfl
          clear h1
          cases b1 with
          | false =>
            have H1 := hide (ssimple_any A_p N c_p _ p w13 ((unhide l_p).arg o_p (by omega)))
            rw [← unhide HB2] at H1
            cases b2 with
            | false =>
              have q0_x := k_x.cell 0
              have q1_x := k_x.cell 1
              have q2_x := k_x.lt
              simp only [List.getElem?_toArray, List.getElem?_cons_zero, List.getElem?_cons_succ] at q0_x q1_x
              go_wp2_with fail
              clear q0_x q1_x q2_x
              refine (unhide H1).mono ?_
              rintro e w14 ⟨rfl, d⟩
              replace o_p := o_p.below d
              replace o_s := o_s.below d
              replace o_x := o_x.below d
              replace k_x := k_x.below d k_x.lt
              replace hb := below_after hb d
              clear d
              clear H1
              clear o_p
              clear o_s
              clear o_x k_x
              go_wp2
              go_ret
              exact ⟨rfl, hb⟩
            | true =>
              by_cases h4 : N < 4
              · have h4i : (N : Int) < 4 := by omega
                have q0_x := k_x.cell 0
                have q1_x := k_x.cell 1
                have q2_x := k_x.lt
                simp only [List.getElem?_toArray, List.getElem?_cons_zero, List.getElem?_cons_succ] at q0_x q1_x
                go_wp2_with fail
                clear q0_x q1_x q2_x
                refine (unhide H1).mono ?_
                rintro e w14 ⟨rfl, d⟩
                replace o_p := o_p.below d
                replace o_s := o_s.below d
                replace o_x := o_x.below d
                replace k_x := k_x.below d k_x.lt
                replace hb := below_after hb d
                clear d
                clear H1
                clear o_p
                clear o_s
                clear o_x k_x
                go_wp2
                go_ret
                exact ⟨rfl, hb⟩
              · have h4i : ¬ (N : Int) < 4 := by omega
                have hRp : R = p := unhide HSO (unhide HB2).symm (by have := unhide HN; omega)
                have HRP := hide hRp
                clear hRp
                have q0_x := k_x.cell 0
                have q1_x := k_x.cell 1
                have q2_x := k_x.lt
                simp only [List.getElem?_toArray, List.getElem?_cons_zero, List.getElem?_cons_succ] at q0_x q1_x
                go_wp2_with fail
                clear q0_x q1_x q2_x
                refine (unhide H1).mono ?_
                rintro e w14 ⟨rfl, d⟩
                replace o_p := o_p.below d
                replace o_s := o_s.below d
                replace o_x := o_x.below d
                replace k_x := k_x.below d k_x.lt
                replace hb := below_after hb d
                clear d
                clear H1
                have hxr : Reads w14 w14.heap.size A_x R.length (i64s p) := by
                  rw [← unhide HRP]
                  exact o_x.row.reads
                have H2 := hide (samei_any A_x A_p R.length c_x N c_p _ _ p w14 hxr o_p.reads (by rw [unhide HRP, ← unhide HN]; omega))
                clear hxr
                have q0_x := k_x.cell 0
                have q1_x := k_x.cell 1
                have q2_x := k_x.lt
                simp only [List.getElem?_toArray, List.getElem?_cons_zero, List.getElem?_cons_succ] at q0_x q1_x
                go_wp2_with fail
                clear q0_x q1_x q2_x
                refine (unhide H2).mono ?_
                rintro e w15 ⟨rfl, d0⟩
                have d := d0.below w14.heap.size
                clear d0
                replace o_p := o_p.below d
                replace o_s := o_s.below d
                replace o_x := o_x.below d
                replace k_x := k_x.below d k_x.lt
                replace hb := below_after hb d
                clear d
                clear H2
                clear o_p
                clear o_s
                clear o_x k_x
                go_wp2
                go_ret
                exact ⟨rfl, hb⟩
          | true =>
            have H1 := hide (ssimple_any A_p N c_p _ p w13 ((unhide l_p).arg o_p (by omega)))
            rw [← unhide HB2] at H1
            cases b2 with
            | false =>
              have q0_x := k_x.cell 0
              have q1_x := k_x.cell 1
              have q2_x := k_x.lt
              simp only [List.getElem?_toArray, List.getElem?_cons_zero, List.getElem?_cons_succ] at q0_x q1_x
              go_wp2_with fail
              clear q0_x q1_x q2_x
              refine (unhide H1).mono ?_
              rintro e w14 ⟨rfl, d⟩
              replace o_p := o_p.below d
              replace o_s := o_s.below d
              replace o_x := o_x.below d
              replace k_x := k_x.below d k_x.lt
              replace hb := below_after hb d
              clear d
              clear H1
              clear o_p
              clear o_s
              clear o_x k_x
              go_wp2
              go_ret
              exact ⟨rfl, hb⟩
            | true =>
              by_cases h4 : N < 4
              · have h4i : (N : Int) < 4 := by omega
                have q0_x := k_x.cell 0
                have q1_x := k_x.cell 1
                have q2_x := k_x.lt
                simp only [List.getElem?_toArray, List.getElem?_cons_zero, List.getElem?_cons_succ] at q0_x q1_x
                go_wp2_with fail
                clear q0_x q1_x q2_x
                refine (unhide H1).mono ?_
                rintro e w14 ⟨rfl, d⟩
                replace o_p := o_p.below d
                replace o_s := o_s.below d
                replace o_x := o_x.below d
                replace k_x := k_x.below d k_x.lt
                replace hb := below_after hb d
                clear d
                clear H1
                clear o_p
                clear o_s
                clear o_x k_x
                go_wp2
                go_ret
                exact ⟨rfl, hb⟩
              · have h4i : ¬ (N : Int) < 4 := by omega
                have hRp : R = p := unhide HSO (unhide HB2).symm (by have := unhide HN; omega)
                have HRP := hide hRp
                clear hRp
                have q0_x := k_x.cell 0
                have q1_x := k_x.cell 1
                have q2_x := k_x.lt
                simp only [List.getElem?_toArray, List.getElem?_cons_zero, List.getElem?_cons_succ] at q0_x q1_x
                go_wp2_with fail
                clear q0_x q1_x q2_x
                refine (unhide H1).mono ?_
                rintro e w14 ⟨rfl, d⟩
                replace o_p := o_p.below d
                replace o_s := o_s.below d
                replace o_x := o_x.below d
                replace k_x := k_x.below d k_x.lt
                replace hb := below_after hb d
                clear d
                clear H1
                have hxr : Reads w14 w14.heap.size A_x R.length (i64s p) := by
                  rw [← unhide HRP]
                  exact o_x.row.reads
                have H2 := hide (samei_any A_x A_p R.length c_x N c_p _ _ p w14 hxr o_p.reads (by rw [unhide HRP, ← unhide HN]; omega))
                clear hxr
                have q0_x := k_x.cell 0
                have q1_x := k_x.cell 1
                have q2_x := k_x.lt
                simp only [List.getElem?_toArray, List.getElem?_cons_zero, List.getElem?_cons_succ] at q0_x q1_x
                go_wp2_with fail
                clear q0_x q1_x q2_x
                refine (unhide H2).mono ?_
                rintro e w15 ⟨rfl, d0⟩
                have d := d0.below w14.heap.size
                clear d0
                replace o_p := o_p.below d
                replace o_s := o_s.below d
                replace o_x := o_x.below d
                replace k_x := k_x.below d k_x.lt
                replace hb := below_after hb d
                clear d
                clear H2
                clear o_p
                clear o_s
                clear o_x k_x
                go_wp2
                go_ret
                exact ⟨rfl, hb⟩
        · obtain rfl : b1 = true := (unhide HB1).trans (unhide HSR (by have := unhide HN; omega))
          have H1 := hide (ssimple_any A_p N c_p _ p w13 ((unhide l_p).arg o_p (by omega)))
          rw [← unhide HB2] at H1
          cases b2 with
          | false =>
            have q0_x := k_x.cell 0
            have q1_x := k_x.cell 1
            have q2_x := k_x.lt
            simp only [List.getElem?_toArray, List.getElem?_cons_zero, List.getElem?_cons_succ] at q0_x q1_x
            go_wp2_with fail
            clear q0_x q1_x q2_x
            refine (unhide H1).mono ?_
            rintro e w14 ⟨rfl, d⟩
            replace o_p := o_p.below d
            replace o_s := o_s.below d
            replace o_x := o_x.below d
            replace k_x := k_x.below d k_x.lt
            replace hb := below_after hb d
            clear d
            clear H1
            clear o_p
            clear o_s
            clear o_x k_x
            go_wp2
            go_ret
            exact ⟨rfl, hb⟩
          | true =>
            by_cases h4 : N < 4
            · have h4i : (N : Int) < 4 := by omega
              have q0_x := k_x.cell 0
              have q1_x := k_x.cell 1
              have q2_x := k_x.lt
              simp only [List.getElem?_toArray, List.getElem?_cons_zero, List.getElem?_cons_succ] at q0_x q1_x
              go_wp2_with fail
              clear q0_x q1_x q2_x
              refine (unhide H1).mono ?_
              rintro e w14 ⟨rfl, d⟩
              replace o_p := o_p.below d
              replace o_s := o_s.below d
              replace o_x := o_x.below d
              replace k_x := k_x.below d k_x.lt
              replace hb := below_after hb d
              clear d
              clear H1
              clear o_p
              clear o_s
              clear o_x k_x
              go_wp2
              go_ret
              exact ⟨rfl, hb⟩
            · have h4i : ¬ (N : Int) < 4 := by omega
              have hRp : R = p := unhide HSO (unhide HB2).symm (by have := unhide HN; omega)
              have HRP := hide hRp
              clear hRp
              have q0_x := k_x.cell 0
              have q1_x := k_x.cell 1
              have q2_x := k_x.lt
              simp only [List.getElem?_toArray, List.getElem?_cons_zero, List.getElem?_cons_succ] at q0_x q1_x
              go_wp2_with fail
              clear q0_x q1_x q2_x
              refine (unhide H1).mono ?_
              rintro e w14 ⟨rfl, d⟩
              replace o_p := o_p.below d
              replace o_s := o_s.below d
              replace o_x := o_x.below d
              replace k_x := k_x.below d k_x.lt
              replace hb := below_after hb d
              clear d
              clear H1
              have hxr : Reads w14 w14.heap.size A_x R.length (i64s p) := by
                rw [← unhide HRP]
                exact o_x.row.reads
              have H2 := hide (samei_any A_x A_p R.length c_x N c_p _ _ p w14 hxr o_p.reads (by rw [unhide HRP, ← unhide HN]; omega))
              clear hxr
              have q0_x := k_x.cell 0
              have q1_x := k_x.cell 1
              have q2_x := k_x.lt
              simp only [List.getElem?_toArray, List.getElem?_cons_zero, List.getElem?_cons_succ] at q0_x q1_x
              go_wp2_with fail
              clear q0_x q1_x q2_x
              refine (unhide H2).mono ?_
              rintro e w15 ⟨rfl, d0⟩
              have d := d0.below w14.heap.size
              clear d0
              replace o_p := o_p.below d
              replace o_s := o_s.below d
              replace o_x := o_x.below d
              replace k_x := k_x.below d k_x.lt
              replace hb := below_after hb d
              clear d
              clear H2
              clear o_p
              clear o_s
              clear o_x k_x
              go_wp2
              go_ret
              exact ⟨rfl, hb⟩
    | true =>
      go_wp2_with fail
      refine (unhide H1).mono ?_
      rintro e w10 ⟨rfl, d⟩
      replace o_p := o_p.below d
      replace o_s := o_s.below d
      replace o_x := o_x.below d
      replace o_y := o_y.below d
      replace o_a := o_a.below d
      replace o_b := o_b.below d
      replace k_x := k_x.below d k_x.lt
      replace k_y := k_y.below d k_y.lt
      replace k_a := k_a.below d k_a.lt
      replace k_b := k_b.below d k_b.lt
      replace hb := below_after hb d
      clear d
      clear H1
      have H1 := hide (isep_any A_s _ c_s _ s w10 ((unhide l_s).arg o_s (by omega)))
      rw [← unhide HBS] at H1
      go_wp2_with fail
      refine (unhide H1).mono ?_
      rintro e w11 ⟨rfl, d⟩
      replace o_p := o_p.below d
      replace o_s := o_s.below d
      replace o_x := o_x.below d
      replace o_y := o_y.below d
      replace o_a := o_a.below d
      replace o_b := o_b.below d
      replace k_x := k_x.below d k_x.lt
      replace k_y := k_y.below d k_y.lt
      replace k_a := k_a.below d k_a.lt
      replace k_b := k_b.below d k_b.lt
      replace hb := below_after hb d
      clear d
      clear H1
      obtain ⟨h1, hh1⟩ : ∃ b, b = hasR s [2, 4, 1, 3] := ⟨_, rfl⟩
      obtain ⟨h2, hh2⟩ : ∃ b, b = hasR s [3, 1, 4, 2] := ⟨_, rfl⟩
      have hsp : bs_ = (!h1 && !h2) := by rw [unhide HBS, hh1, hh2]; exact sep_two (unhide HP0)
      have HH1 := hide hh1
      have HH2 := hide hh2
      have HSP := hide hsp
      clear hh1 hh2 hsp
      cases h1 with
      | false =>
        have a4 : Arg (w11.alloc (.cells #[.int .i64 2, .int .i64 4, .int .i64 1, .int .i64 3] 3)) (w11.heap.size + 1) (some ⟨w11.heap.size, 0, none⟩) 4 4 [2, 4, 1, 3] := arg_four w11 2 4 1 3 (by omega)
        have d4 : Below w11.heap.size w11 (w11.alloc (.cells #[.int .i64 2, .int .i64 4, .int .i64 1, .int .i64 3] 3)) := (Below.refl _ _).alloc (Nat.le_refl _) _
        have H1 := hide (shas_any A_s (some ⟨w11.heap.size, 0, none⟩) _ c_s _ 4 4 _ s [2, 4, 1, 3] _ (((unhide l_s).arg o_s (by omega)).below d4) a4)
        rw [← unhide HH1] at H1
        clear a4
        go_wp2_with fail
        refine (unhide H1).mono ?_
        rintro e w12 ⟨rfl, d5⟩
        have d := below_after d4 d5
        clear d4 d5 H1
        replace o_p := o_p.below d
        replace o_s := o_s.below d
        replace o_x := o_x.below d
        replace o_y := o_y.below d
        replace o_a := o_a.below d
        replace o_b := o_b.below d
        replace k_x := k_x.below d k_x.lt
        replace k_y := k_y.below d k_y.lt
        replace k_a := k_a.below d k_a.lt
        replace k_b := k_b.below d k_b.lt
        replace hb := below_after hb d
        clear d
        have hf : bs_ = !h2 := by rw [unhide HSP]; cases h2 <;> rfl
        subst hf
        have a4 : Arg (w12.alloc (.cells #[.int .i64 3, .int .i64 1, .int .i64 4, .int .i64 2] 3)) (w12.heap.size + 1) (some ⟨w12.heap.size, 0, none⟩) 4 4 [3, 1, 4, 2] := arg_four w12 3 1 4 2 (by omega)
        have d4 : Below w12.heap.size w12 (w12.alloc (.cells #[.int .i64 3, .int .i64 1, .int .i64 4, .int .i64 2] 3)) := (Below.refl _ _).alloc (Nat.le_refl _) _
        have H1 := hide (shas_any A_s (some ⟨w12.heap.size, 0, none⟩) _ c_s _ 4 4 _ s [3, 1, 4, 2] _ (((unhide l_s).arg o_s (by omega)).below d4) a4)
        rw [← unhide HH2] at H1
        clear a4
        go_wp2_with fail
        refine (unhide H1).mono ?_
        rintro e w13 ⟨rfl, d5⟩
        have d := below_after d4 d5
        clear d4 d5 H1
        replace o_p := o_p.below d
        replace o_s := o_s.below d
        replace o_x := o_x.below d
        replace o_y := o_y.below d
        replace o_a := o_a.below d
        replace o_b := o_b.below d
        replace k_x := k_x.below d k_x.lt
        replace k_y := k_y.below d k_y.lt
        replace k_a := k_a.below d k_a.lt
        replace k_b := k_b.below d k_b.lt
        replace hb := below_after hb d
        clear d
        cases ok with
        | false =>
          have hT : T = ⟨#[]⟩ := by rw [unhide HT, textF_no (unhide HOK).symm]; rfl
          have H1 := hide (itextW A_p _ c_p _ p w13 ((unhide l_p).arg o_p (by omega)))
          rw [← unhide HT, hT] at H1
          clear hT
          go_wp2_with fail
          refine (unhide H1).mono ?_
          rintro e w14 ⟨rfl, d⟩
          replace o_p := o_p.below d
          replace o_s := o_s.below d
          replace o_x := o_x.below d
          replace o_y := o_y.below d
          replace o_a := o_a.below d
          replace o_b := o_b.below d
          replace k_x := k_x.below d k_x.lt
          replace k_y := k_y.below d k_y.lt
          replace k_a := k_a.below d k_a.lt
          replace k_b := k_b.below d k_b.lt
          replace hb := below_after hb d
          clear d
          clear H1
          clear o_p
          clear o_s
          clear o_x k_x
          clear o_y k_y
          clear o_a k_a
          clear o_b k_b
          go_wp2
          go_ret
          exact ⟨rfl, hb⟩
        | true =>
          clear o_y k_y
          clear o_a k_a
          clear o_b k_b
          have hok := (unhide HOK).symm
          have hpp := splitOK_all hok
          have hI := infl_root hok
          have hRS : R = rootP p ∧ S = pcsP p := ⟨(unhide HRS).1.trans (rootR_yes hok), (unhide HRS).2.trans (pcsR_yes hok)⟩
          rw [← hRS.1, ← hRS.2] at hI
          have HI := hide hI
          have hsr : p.length ≠ 1 → simpleP R = true := fun h1 => by rw [hRS.1]; exact rootP_simple hpp.1 hpp.2 h1
          have hso : simpleP p = true → 4 ≤ p.length → R = p := fun h1 h2 => by rw [hRS.1]; exact root_own h1 h2
          have HSR := hide hsr
          have HSO := hide hso
          clear hok hpp hI hRS hsr hso
          have hp9 : p.length ≤ 9 := (unhide l_p).1
          obtain ⟨N, hN⟩ : ∃ N, N = p.length := ⟨_, rfl⟩
          have HN := hide hN
          rw [← hN] at hp9 o_p ⊢
          clear hN
          have H1 := hide (sinfl_any A_x P_x _ c_x _ _ d_x _ R S w13 (inf_arg o_x (by have := (unhide L_x).1.1; omega) (unhide L_x).1.2) o_x.pcs.intsS (by have := (unhide L_x).2.1; omega) (fun z hz => ⟨Nat.le_trans ((unhide L_x).2.2 z hz).1 (by omega), ((unhide L_x).2.2 z hz).2⟩))
          rw [(unhide HI).1, (unhide HI).2] at H1
          have q0_x := k_x.cell 0
          have q1_x := k_x.cell 1
          have q2_x := k_x.lt
          simp only [List.getElem?_toArray, List.getElem?_cons_zero, List.getElem?_cons_succ] at q0_x q1_x
          go_wp2_with fail
          clear q0_x q1_x q2_x
          refine (unhide H1).mono ?_
          rintro e w14 ⟨A_z, c_z, rfl, o_z, d⟩
          replace o_p := o_p.below d
          replace o_s := o_s.below d
          replace o_x := o_x.below d
          replace k_x := k_x.below d k_x.lt
          replace hb := below_after hb d
          clear d
          clear H1
          obtain ⟨b1, hb1⟩ : ∃ b, b = simpleP R := ⟨_, rfl⟩
          obtain ⟨b2, hb2⟩ : ∃ b, b = simpleP p := ⟨_, rfl⟩
          have HB1 := hide hb1
          have HB2 := hide hb2
          clear hb1 hb2
          go_wp2_with fail
          refine (samei_any _ _ _ _ _ _ _ _ p _ o_z.reads o_p.reads (by have := (unhide l_p).1; omega)).mono ?_
          rintro e w15 ⟨rfl, d0⟩
          have d := d0.below w14.heap.size
          clear d0
          replace o_p := o_p.below d
          replace o_s := o_s.below d
          replace o_z := o_z.below d
          replace o_x := o_x.below d
          replace k_x := k_x.below d k_x.lt
          replace hb := below_after hb d
          clear d
          clear o_z
          have H1 := hide (ssimple_any A_x _ c_x _ R w15 (inf_arg o_x (by have := (unhide L_x).1.1; omega) (unhide L_x).1.2))
          rw [← unhide HB1] at H1
          have q0_x := k_x.cell 0
          have q1_x := k_x.cell 1
          have q2_x := k_x.lt
          simp only [List.getElem?_toArray, List.getElem?_cons_zero, List.getElem?_cons_succ] at q0_x q1_x
          go_wp2_with fail
          clear q0_x q1_x q2_x
          refine (unhide H1).mono ?_
          rintro e w16 ⟨rfl, d⟩
          replace o_p := o_p.below d
          replace o_s := o_s.below d
          replace o_x := o_x.below d
          replace k_x := k_x.below d k_x.lt
          replace hb := below_after hb d
          clear d
          clear H1
          by_cases h1 : N = 1
          · have h1i : ((N : Int) == 1) = true := by rw [h1]; rfl
            clear h1
            cases b1 with
            | false =>
              have H1 := hide (ssimple_any A_p N c_p _ p w16 ((unhide l_p).arg o_p (by omega)))
              rw [← unhide HB2] at H1
              cases b2 with
              | false =>
                have q0_x := k_x.cell 0
                have q1_x := k_x.cell 1
                have q2_x := k_x.lt
                simp only [List.getElem?_toArray, List.getElem?_cons_zero, List.getElem?_cons_succ] at q0_x q1_x
                go_wp2_with fail
                clear q0_x q1_x q2_x
                refine (unhide H1).mono ?_
                rintro e w17 ⟨rfl, d⟩
                replace o_p := o_p.below d
                replace o_s := o_s.below d
                replace o_x := o_x.below d
                replace k_x := k_x.below d k_x.lt
                replace hb := below_after hb d
                clear d
                clear H1
                clear o_p
                clear o_s
                clear o_x k_x
                go_wp2
                go_ret
                exact ⟨rfl, hb⟩
              | true =>
                by_cases h4 : N < 4
                · have h4i : (N : Int) < 4 := by omega
                  have q0_x := k_x.cell 0
                  have q1_x := k_x.cell 1
                  have q2_x := k_x.lt
                  simp only [List.getElem?_toArray, List.getElem?_cons_zero, List.getElem?_cons_succ] at q0_x q1_x
                  go_wp2_with fail
                  clear q0_x q1_x q2_x
                  refine (unhide H1).mono ?_
                  rintro e w17 ⟨rfl, d⟩
                  replace o_p := o_p.below d
                  replace o_s := o_s.below d
                  replace o_x := o_x.below d
                  replace k_x := k_x.below d k_x.lt
                  replace hb := below_after hb d
                  clear d
                  clear H1
                  clear o_p
                  clear o_s
                  clear o_x k_x
                  go_wp2
                  go_ret
                  exact ⟨rfl, hb⟩
                · have h4i : ¬ (N : Int) < 4 := by omega
                  have hRp : R = p := unhide HSO (unhide HB2).symm (by have := unhide HN; omega)
                  have HRP := hide hRp
                  clear hRp
                  have q0_x := k_x.cell 0
                  have q1_x := k_x.cell 1
                  have q2_x := k_x.lt
                  simp only [List.getElem?_toArray, List.getElem?_cons_zero, List.getElem?_cons_succ] at q0_x q1_x
                  go_wp2_with fail
                  clear q0_x q1_x q2_x
                  refine (unhide H1).mono ?_
                  rintro e w17 ⟨rfl, d⟩
                  replace o_p := o_p.below d
                  replace o_s := o_s.below d
                  replace o_x := o_x.below d
                  replace k_x := k_x.below d k_x.lt
                  replace hb := below_after hb d
                  clear d
                  clear H1
                  have hxr : Reads w17 w17.heap.size A_x R.length (i64s p) := by
                    rw [← unhide HRP]
                    exact o_x.row.reads
                  have H2 := hide (samei_any A_x A_p R.length c_x N c_p _ _ p w17 hxr o_p.reads (by rw [unhide HRP, ← unhide HN]; omega))
                  clear hxr
                  have q0_x := k_x.cell 0
                  have q1_x := k_x.cell 1
                  have q2_x := k_x.lt
                  simp only [List.getElem?_toArray, List.getElem?_cons_zero, List.getElem?_cons_succ] at q0_x q1_x
                  go_wp2_with fail
                  clear q0_x q1_x q2_x
                  refine (unhide H2).mono ?_
                  rintro e w18 ⟨rfl, d0⟩
                  have d := d0.below w17.heap.size
                  clear d0
                  replace o_p := o_p.below d
                  replace o_s := o_s.below d
                  replace o_x := o_x.below d
                  replace k_x := k_x.below d k_x.lt
                  replace hb := below_after hb d
                  clear d
                  clear H2
                  clear o_p
                  clear o_s
                  clear o_x k_x
                  go_wp2
                  go_ret
                  exact ⟨rfl, hb⟩
            | true =>
              have H1 := hide (ssimple_any A_p N c_p _ p w16 ((unhide l_p).arg o_p (by omega)))
              rw [← unhide HB2] at H1
              cases b2 with
              | false =>
                have q0_x := k_x.cell 0
                have q1_x := k_x.cell 1
                have q2_x := k_x.lt
                simp only [List.getElem?_toArray, List.getElem?_cons_zero, List.getElem?_cons_succ] at q0_x q1_x
                go_wp2_with fail
                clear q0_x q1_x q2_x
                refine (unhide H1).mono ?_
                rintro e w17 ⟨rfl, d⟩
                replace o_p := o_p.below d
                replace o_s := o_s.below d
                replace o_x := o_x.below d
                replace k_x := k_x.below d k_x.lt
                replace hb := below_after hb d
                clear d
                clear H1
                clear o_p
                clear o_s
                clear o_x k_x
                go_wp2
                go_ret
                exact ⟨rfl, hb⟩
              | true =>
                by_cases h4 : N < 4
                · have h4i : (N : Int) < 4 := by omega
                  have q0_x := k_x.cell 0
                  have q1_x := k_x.cell 1
                  have q2_x := k_x.lt
                  simp only [List.getElem?_toArray, List.getElem?_cons_zero, List.getElem?_cons_succ] at q0_x q1_x
                  go_wp2_with fail
                  clear q0_x q1_x q2_x
                  refine (unhide H1).mono ?_
                  rintro e w17 ⟨rfl, d⟩
                  replace o_p := o_p.below d
                  replace o_s := o_s.below d
                  replace o_x := o_x.below d
                  replace k_x := k_x.below d k_x.lt
                  replace hb := below_after hb d
                  clear d
                  clear H1
                  clear o_p
                  clear o_s
                  clear o_x k_x
                  go_wp2
                  go_ret
                  exact ⟨rfl, hb⟩
                · have h4i : ¬ (N : Int) < 4 := by omega
                  have hRp : R = p := unhide HSO (unhide HB2).symm (by have := unhide HN; omega)
                  have HRP := hide hRp
                  clear hRp
                  have q0_x := k_x.cell 0
                  have q1_x := k_x.cell 1
                  have q2_x := k_x.lt
                  simp only [List.getElem?_toArray, List.getElem?_cons_zero, List.getElem?_cons_succ] at q0_x q1_x
                  go_wp2_with fail
                  clear q0_x q1_x q2_x
                  refine (unhide H1).mono ?_
                  rintro e w17 ⟨rfl, d⟩
                  replace o_p := o_p.below d
                  replace o_s := o_s.below d
                  replace o_x := o_x.below d
                  replace k_x := k_x.below d k_x.lt
                  replace hb := below_after hb d
                  clear d
                  clear H1
                  have hxr : Reads w17 w17.heap.size A_x R.length (i64s p) := by
                    rw [← unhide HRP]
                    exact o_x.row.reads
                  have H2 := hide (samei_any A_x A_p R.length c_x N c_p _ _ p w17 hxr o_p.reads (by rw [unhide HRP, ← unhide HN]; omega))
                  clear hxr
                  have q0_x := k_x.cell 0
                  have q1_x := k_x.cell 1
                  have q2_x := k_x.lt
                  simp only [List.getElem?_toArray, List.getElem?_cons_zero, List.getElem?_cons_succ] at q0_x q1_x
                  go_wp2_with fail
                  clear q0_x q1_x q2_x
                  refine (unhide H2).mono ?_
                  rintro e w18 ⟨rfl, d0⟩
                  have d := d0.below w17.heap.size
                  clear d0
                  replace o_p := o_p.below d
                  replace o_s := o_s.below d
                  replace o_x := o_x.below d
                  replace k_x := k_x.below d k_x.lt
                  replace hb := below_after hb d
                  clear d
                  clear H2
                  clear o_p
                  clear o_s
                  clear o_x k_x
                  go_wp2
                  go_ret
                  exact ⟨rfl, hb⟩
          · obtain rfl : b1 = true := (unhide HB1).trans (unhide HSR (by have := unhide HN; omega))
            have H1 := hide (ssimple_any A_p N c_p _ p w16 ((unhide l_p).arg o_p (by omega)))
            rw [← unhide HB2] at H1
            cases b2 with
            | false =>
              have q0_x := k_x.cell 0
              have q1_x := k_x.cell 1
              have q2_x := k_x.lt
              simp only [List.getElem?_toArray, List.getElem?_cons_zero, List.getElem?_cons_succ] at q0_x q1_x
              go_wp2_with fail
              clear q0_x q1_x q2_x
              refine (unhide H1).mono ?_
              rintro e w17 ⟨rfl, d⟩
              replace o_p := o_p.below d
              replace o_s := o_s.below d
              replace o_x := o_x.below d
              replace k_x := k_x.below d k_x.lt
              replace hb := below_after hb d
              clear d
              clear H1
              clear o_p
              clear o_s
              clear o_x k_x
              go_wp2
              go_ret
              exact ⟨rfl, hb⟩
            | true =>
              by_cases h4 : N < 4
              · have h4i : (N : Int) < 4 := by omega
                have q0_x := k_x.cell 0
                have q1_x := k_x.cell 1
                have q2_x := k_x.lt
                simp only [List.getElem?_toArray, List.getElem?_cons_zero, List.getElem?_cons_succ] at q0_x q1_x
                go_wp2_with fail
                clear q0_x q1_x q2_x
                refine (unhide H1).mono ?_
                rintro e w17 ⟨rfl, d⟩
                replace o_p := o_p.below d
                replace o_s := o_s.below d
                replace o_x := o_x.below d
                replace k_x := k_x.below d k_x.lt
                replace hb := below_after hb d
                clear d
                clear H1
                clear o_p
                clear o_s
                clear o_x k_x
                go_wp2
                go_ret
                exact ⟨rfl, hb⟩
              · have h4i : ¬ (N : Int) < 4 := by omega
                have hRp : R = p := unhide HSO (unhide HB2).symm (by have := unhide HN; omega)
                have HRP := hide hRp
                clear hRp
                have q0_x := k_x.cell 0
                have q1_x := k_x.cell 1
                have q2_x := k_x.lt
                simp only [List.getElem?_toArray, List.getElem?_cons_zero, List.getElem?_cons_succ] at q0_x q1_x
                go_wp2_with fail
                clear q0_x q1_x q2_x
                refine (unhide H1).mono ?_
                rintro e w17 ⟨rfl, d⟩
                replace o_p := o_p.below d
                replace o_s := o_s.below d
                replace o_x := o_x.below d
                replace k_x := k_x.below d k_x.lt
                replace hb := below_after hb d
                clear d
                clear H1
                have hxr : Reads w17 w17.heap.size A_x R.length (i64s p) := by
                  rw [← unhide HRP]
                  exact o_x.row.reads
                have H2 := hide (samei_any A_x A_p R.length c_x N c_p _ _ p w17 hxr o_p.reads (by rw [unhide HRP, ← unhide HN]; omega))
                clear hxr
                have q0_x := k_x.cell 0
                have q1_x := k_x.cell 1
                have q2_x := k_x.lt
                simp only [List.getElem?_toArray, List.getElem?_cons_zero, List.getElem?_cons_succ] at q0_x q1_x
                go_wp2_with fail
                clear q0_x q1_x q2_x
                refine (unhide H2).mono ?_
                rintro e w18 ⟨rfl, d0⟩
                have d := d0.below w17.heap.size
                clear d0
                replace o_p := o_p.below d
                replace o_s := o_s.below d
                replace o_x := o_x.below d
                replace k_x := k_x.below d k_x.lt
                replace hb := below_after hb d
                clear d
                clear H2
                clear o_p
                clear o_s
                clear o_x k_x
                go_wp2
                go_ret
                exact ⟨rfl, hb⟩
      | true =>
        have a4 : Arg (w11.alloc (.cells #[.int .i64 2, .int .i64 4, .int .i64 1, .int .i64 3] 3)) (w11.heap.size + 1) (some ⟨w11.heap.size, 0, none⟩) 4 4 [2, 4, 1, 3] := arg_four w11 2 4 1 3 (by omega)
        have d4 : Below w11.heap.size w11 (w11.alloc (.cells #[.int .i64 2, .int .i64 4, .int .i64 1, .int .i64 3] 3)) := (Below.refl _ _).alloc (Nat.le_refl _) _
        have H1 := hide (shas_any A_s (some ⟨w11.heap.size, 0, none⟩) _ c_s _ 4 4 _ s [2, 4, 1, 3] _ (((unhide l_s).arg o_s (by omega)).below d4) a4)
        rw [← unhide HH1] at H1
        clear a4
        go_wp2_with fail
        refine (unhide H1).mono ?_
        rintro e w12 ⟨rfl, d5⟩
        have d := below_after d4 d5
        clear d4 d5 H1
        replace o_p := o_p.below d
        replace o_s := o_s.below d
        replace o_x := o_x.below d
        replace o_y := o_y.below d
        replace o_a := o_a.below d
        replace o_b := o_b.below d
        replace k_x := k_x.below d k_x.lt
        replace k_y := k_y.below d k_y.lt
        replace k_a := k_a.below d k_a.lt
        replace k_b := k_b.below d k_b.lt
        replace hb := below_after hb d
        clear d
        have hf : bs_ = false := by rw [unhide HSP]; rfl
        subst hf
        cases ok with
        | false =>
          have hT : T = ⟨#[]⟩ := by rw [unhide HT, textF_no (unhide HOK).symm]; rfl
          have H1 := hide (itextW A_p _ c_p _ p w12 ((unhide l_p).arg o_p (by omega)))
          rw [← unhide HT, hT] at H1
          clear hT
          go_wp2_with fail
          refine (unhide H1).mono ?_
          rintro e w13 ⟨rfl, d⟩
          replace o_p := o_p.below d
          replace o_s := o_s.below d
          replace o_x := o_x.below d
          replace o_y := o_y.below d
          replace o_a := o_a.below d
          replace o_b := o_b.below d
          replace k_x := k_x.below d k_x.lt
          replace k_y := k_y.below d k_y.lt
          replace k_a := k_a.below d k_a.lt
          replace k_b := k_b.below d k_b.lt
          replace hb := below_after hb d
          clear d
          clear H1
          clear o_p
          clear o_s
          clear o_x k_x
          clear o_y k_y
          clear o_a k_a
          clear o_b k_b
          go_wp2
          go_ret
          exact ⟨rfl, hb⟩
        | true =>
          clear o_y k_y
          clear o_a k_a
          clear o_b k_b
          have hok := (unhide HOK).symm
          have hpp := splitOK_all hok
          have hI := infl_root hok
          have hRS : R = rootP p ∧ S = pcsP p := ⟨(unhide HRS).1.trans (rootR_yes hok), (unhide HRS).2.trans (pcsR_yes hok)⟩
          rw [← hRS.1, ← hRS.2] at hI
          have HI := hide hI
          have hsr : p.length ≠ 1 → simpleP R = true := fun h1 => by rw [hRS.1]; exact rootP_simple hpp.1 hpp.2 h1
          have hso : simpleP p = true → 4 ≤ p.length → R = p := fun h1 h2 => by rw [hRS.1]; exact root_own h1 h2
          have HSR := hide hsr
          have HSO := hide hso
          clear hok hpp hI hRS hsr hso
          have hp9 : p.length ≤ 9 := (unhide l_p).1
          obtain ⟨N, hN⟩ : ∃ N, N = p.length := ⟨_, rfl⟩
          have HN := hide hN
          rw [← hN] at hp9 o_p ⊢
          clear hN
          have H1 := hide (sinfl_any A_x P_x _ c_x _ _ d_x _ R S w12 (inf_arg o_x (by have := (unhide L_x).1.1; omega) (unhide L_x).1.2) o_x.pcs.intsS (by have := (unhide L_x).2.1; omega) (fun z hz => ⟨Nat.le_trans ((unhide L_x).2.2 z hz).1 (by omega), ((unhide L_x).2.2 z hz).2⟩))
          rw [(unhide HI).1, (unhide HI).2] at H1
          have q0_x := k_x.cell 0
          have q1_x := k_x.cell 1
          have q2_x := k_x.lt
          simp only [List.getElem?_toArray, List.getElem?_cons_zero, List.getElem?_cons_succ] at q0_x q1_x
          go_wp2_with fail
          clear q0_x q1_x q2_x
          refine (unhide H1).mono ?_
          rintro e w13 ⟨A_z, c_z, rfl, o_z, d⟩
          replace o_p := o_p.below d
          replace o_s := o_s.below d
          replace o_x := o_x.below d
          replace k_x := k_x.below d k_x.lt
          replace hb := below_after hb d
          clear d
          clear H1
          obtain ⟨b1, hb1⟩ : ∃ b, b = simpleP R := ⟨_, rfl⟩
          obtain ⟨b2, hb2⟩ : ∃ b, b = simpleP p := ⟨_, rfl⟩
          have HB1 := hide hb1
          have HB2 := hide hb2
          clear hb1 hb2
          go_wp2_with fail
          refine (samei_any _ _ _ _ _ _ _ _ p _ o_z.reads o_p.reads (by have := (unhide l_p).1; omega)).mono ?_
          rintro e w14 ⟨rfl, d0⟩
          have d := d0.below w13.heap.size
          clear d0
          replace o_p := o_p.below d
          replace o_s := o_s.below d
          replace o_z := o_z.below d
          replace o_x := o_x.below d
          replace k_x := k_x.below d k_x.lt
          replace hb := below_after hb d
          clear d
          clear o_z
          have H1 := hide (ssimple_any A_x _ c_x _ R w14 (inf_arg o_x (by have := (unhide L_x).1.1; omega) (unhide L_x).1.2))
          rw [← unhide HB1] at H1
          have q0_x := k_x.cell 0
          have q1_x := k_x.cell 1
          have q2_x := k_x.lt
          simp only [List.getElem?_toArray, List.getElem?_cons_zero, List.getElem?_cons_succ] at q0_x q1_x
          go_wp2_with fail
          clear q0_x q1_x q2_x
          refine (unhide H1).mono ?_
          rintro e w15 ⟨rfl, d⟩
          replace o_p := o_p.below d
          replace o_s := o_s.below d
          replace o_x := o_x.below d
          replace k_x := k_x.below d k_x.lt
          replace hb := below_after hb d
          clear d
          clear H1
          by_cases h1 : N = 1
          · have h1i : ((N : Int) == 1) = true := by rw [h1]; rfl
            clear h1
            cases b1 with
            | false =>
              have H1 := hide (ssimple_any A_p N c_p _ p w15 ((unhide l_p).arg o_p (by omega)))
              rw [← unhide HB2] at H1
              cases b2 with
              | false =>
                have q0_x := k_x.cell 0
                have q1_x := k_x.cell 1
                have q2_x := k_x.lt
                simp only [List.getElem?_toArray, List.getElem?_cons_zero, List.getElem?_cons_succ] at q0_x q1_x
                go_wp2_with fail
                clear q0_x q1_x q2_x
                refine (unhide H1).mono ?_
                rintro e w16 ⟨rfl, d⟩
                replace o_p := o_p.below d
                replace o_s := o_s.below d
                replace o_x := o_x.below d
                replace k_x := k_x.below d k_x.lt
                replace hb := below_after hb d
                clear d
                clear H1
                clear o_p
                clear o_s
                clear o_x k_x
                go_wp2
                go_ret
                exact ⟨rfl, hb⟩
              | true =>
                by_cases h4 : N < 4
                · have h4i : (N : Int) < 4 := by omega
                  have q0_x := k_x.cell 0
                  have q1_x := k_x.cell 1
                  have q2_x := k_x.lt
                  simp only [List.getElem?_toArray, List.getElem?_cons_zero, List.getElem?_cons_succ] at q0_x q1_x
                  go_wp2_with fail
                  clear q0_x q1_x q2_x
                  refine (unhide H1).mono ?_
                  rintro e w16 ⟨rfl, d⟩
                  replace o_p := o_p.below d
                  replace o_s := o_s.below d
                  replace o_x := o_x.below d
                  replace k_x := k_x.below d k_x.lt
                  replace hb := below_after hb d
                  clear d
                  clear H1
                  clear o_p
                  clear o_s
                  clear o_x k_x
                  go_wp2
                  go_ret
                  exact ⟨rfl, hb⟩
                · have h4i : ¬ (N : Int) < 4 := by omega
                  have hRp : R = p := unhide HSO (unhide HB2).symm (by have := unhide HN; omega)
                  have HRP := hide hRp
                  clear hRp
                  have q0_x := k_x.cell 0
                  have q1_x := k_x.cell 1
                  have q2_x := k_x.lt
                  simp only [List.getElem?_toArray, List.getElem?_cons_zero, List.getElem?_cons_succ] at q0_x q1_x
                  go_wp2_with fail
                  clear q0_x q1_x q2_x
                  refine (unhide H1).mono ?_
                  rintro e w16 ⟨rfl, d⟩
                  replace o_p := o_p.below d
                  replace o_s := o_s.below d
                  replace o_x := o_x.below d
                  replace k_x := k_x.below d k_x.lt
                  replace hb := below_after hb d
                  clear d
                  clear H1
                  have hxr : Reads w16 w16.heap.size A_x R.length (i64s p) := by
                    rw [← unhide HRP]
                    exact o_x.row.reads
                  have H2 := hide (samei_any A_x A_p R.length c_x N c_p _ _ p w16 hxr o_p.reads (by rw [unhide HRP, ← unhide HN]; omega))
                  clear hxr
                  have q0_x := k_x.cell 0
                  have q1_x := k_x.cell 1
                  have q2_x := k_x.lt
                  simp only [List.getElem?_toArray, List.getElem?_cons_zero, List.getElem?_cons_succ] at q0_x q1_x
                  go_wp2_with fail
                  clear q0_x q1_x q2_x
                  refine (unhide H2).mono ?_
                  rintro e w17 ⟨rfl, d0⟩
                  have d := d0.below w16.heap.size
                  clear d0
                  replace o_p := o_p.below d
                  replace o_s := o_s.below d
                  replace o_x := o_x.below d
                  replace k_x := k_x.below d k_x.lt
                  replace hb := below_after hb d
                  clear d
                  clear H2
                  clear o_p
                  clear o_s
                  clear o_x k_x
                  go_wp2
                  go_ret
                  exact ⟨rfl, hb⟩
            | true =>
              have H1 := hide (ssimple_any A_p N c_p _ p w15 ((unhide l_p).arg o_p (by omega)))
              rw [← unhide HB2] at H1
              cases b2 with
              | false =>
                have q0_x := k_x.cell 0
                have q1_x := k_x.cell 1
                have q2_x := k_x.lt
                simp only [List.getElem?_toArray, List.getElem?_cons_zero, List.getElem?_cons_succ] at q0_x q1_x
                go_wp2_with fail
                clear q0_x q1_x q2_x
                refine (unhide H1).mono ?_
                rintro e w16 ⟨rfl, d⟩
                replace o_p := o_p.below d
                replace o_s := o_s.below d
                replace o_x := o_x.below d
                replace k_x := k_x.below d k_x.lt
                replace hb := below_after hb d
                clear d
                clear H1
                clear o_p
                clear o_s
                clear o_x k_x
                go_wp2
                go_ret
                exact ⟨rfl, hb⟩
              | true =>
                by_cases h4 : N < 4
                · have h4i : (N : Int) < 4 := by omega
                  have q0_x := k_x.cell 0
                  have q1_x := k_x.cell 1
                  have q2_x := k_x.lt
                  simp only [List.getElem?_toArray, List.getElem?_cons_zero, List.getElem?_cons_succ] at q0_x q1_x
                  go_wp2_with fail
                  clear q0_x q1_x q2_x
                  refine (unhide H1).mono ?_
                  rintro e w16 ⟨rfl, d⟩
                  replace o_p := o_p.below d
                  replace o_s := o_s.below d
                  replace o_x := o_x.below d
                  replace k_x := k_x.below d k_x.lt
                  replace hb := below_after hb d
                  clear d
                  clear H1
                  clear o_p
                  clear o_s
                  clear o_x k_x
                  go_wp2
                  go_ret
                  exact ⟨rfl, hb⟩
                · have h4i : ¬ (N : Int) < 4 := by omega
                  have hRp : R = p := unhide HSO (unhide HB2).symm (by have := unhide HN; omega)
                  have HRP := hide hRp
                  clear hRp
                  have q0_x := k_x.cell 0
                  have q1_x := k_x.cell 1
                  have q2_x := k_x.lt
                  simp only [List.getElem?_toArray, List.getElem?_cons_zero, List.getElem?_cons_succ] at q0_x q1_x
                  go_wp2_with fail
                  clear q0_x q1_x q2_x
                  refine (unhide H1).mono ?_
                  rintro e w16 ⟨rfl, d⟩
                  replace o_p := o_p.below d
                  replace o_s := o_s.below d
                  replace o_x := o_x.below d
                  replace k_x := k_x.below d k_x.lt
                  replace hb := below_after hb d
                  clear d
                  clear H1
                  have hxr : Reads w16 w16.heap.size A_x R.length (i64s p) := by
                    rw [← unhide HRP]
                    exact o_x.row.reads
                  have H2 := hide (samei_any A_x A_p R.length c_x N c_p _ _ p w16 hxr o_p.reads (by rw [unhide HRP, ← unhide HN]; omega))
                  clear hxr
                  have q0_x := k_x.cell 0
                  have q1_x := k_x.cell 1
                  have q2_x := k_x.lt
                  simp only [List.getElem?_toArray, List.getElem?_cons_zero, List.getElem?_cons_succ] at q0_x q1_x
                  go_wp2_with fail
                  clear q0_x q1_x q2_x
                  refine (unhide H2).mono ?_
                  rintro e w17 ⟨rfl, d0⟩
                  have d := d0.below w16.heap.size
                  clear d0
                  replace o_p := o_p.below d
                  replace o_s := o_s.below d
                  replace o_x := o_x.below d
                  replace k_x := k_x.below d k_x.lt
                  replace hb := below_after hb d
                  clear d
                  clear H2
                  clear o_p
                  clear o_s
                  clear o_x k_x
                  go_wp2
                  go_ret
                  exact ⟨rfl, hb⟩
          · obtain rfl : b1 = true := (unhide HB1).trans (unhide HSR (by have := unhide HN; omega))
            have H1 := hide (ssimple_any A_p N c_p _ p w15 ((unhide l_p).arg o_p (by omega)))
            rw [← unhide HB2] at H1
            cases b2 with
            | false =>
              have q0_x := k_x.cell 0
              have q1_x := k_x.cell 1
              have q2_x := k_x.lt
              simp only [List.getElem?_toArray, List.getElem?_cons_zero, List.getElem?_cons_succ] at q0_x q1_x
              go_wp2_with fail
              clear q0_x q1_x q2_x
              refine (unhide H1).mono ?_
              rintro e w16 ⟨rfl, d⟩
              replace o_p := o_p.below d
              replace o_s := o_s.below d
              replace o_x := o_x.below d
              replace k_x := k_x.below d k_x.lt
              replace hb := below_after hb d
              clear d
              clear H1
              clear o_p
              clear o_s
              clear o_x k_x
              go_wp2
              go_ret
              exact ⟨rfl, hb⟩
            | true =>
              by_cases h4 : N < 4
              · have h4i : (N : Int) < 4 := by omega
                have q0_x := k_x.cell 0
                have q1_x := k_x.cell 1
                have q2_x := k_x.lt
                simp only [List.getElem?_toArray, List.getElem?_cons_zero, List.getElem?_cons_succ] at q0_x q1_x
                go_wp2_with fail
                clear q0_x q1_x q2_x
                refine (unhide H1).mono ?_
                rintro e w16 ⟨rfl, d⟩
                replace o_p := o_p.below d
                replace o_s := o_s.below d
                replace o_x := o_x.below d
                replace k_x := k_x.below d k_x.lt
                replace hb := below_after hb d
                clear d
                clear H1
                clear o_p
                clear o_s
                clear o_x k_x
                go_wp2
                go_ret
                exact ⟨rfl, hb⟩
              · have h4i : ¬ (N : Int) < 4 := by omega
                have hRp : R = p := unhide HSO (unhide HB2).symm (by have := unhide HN; omega)
                have HRP := hide hRp
                clear hRp
                have q0_x := k_x.cell 0
                have q1_x := k_x.cell 1
                have q2_x := k_x.lt
                simp only [List.getElem?_toArray, List.getElem?_cons_zero, List.getElem?_cons_succ] at q0_x q1_x
                go_wp2_with fail
                clear q0_x q1_x q2_x
                refine (unhide H1).mono ?_
                rintro e w16 ⟨rfl, d⟩
                replace o_p := o_p.below d
                replace o_s := o_s.below d
                replace o_x := o_x.below d
                replace k_x := k_x.below d k_x.lt
                replace hb := below_after hb d
                clear d
                clear H1
                have hxr : Reads w16 w16.heap.size A_x R.length (i64s p) := by
                  rw [← unhide HRP]
                  exact o_x.row.reads
                have H2 := hide (samei_any A_x A_p R.length c_x N c_p _ _ p w16 hxr o_p.reads (by rw [unhide HRP, ← unhide HN]; omega))
                clear hxr
                have q0_x := k_x.cell 0
                have q1_x := k_x.cell 1
                have q2_x := k_x.lt
                simp only [List.getElem?_toArray, List.getElem?_cons_zero, List.getElem?_cons_succ] at q0_x q1_x
                go_wp2_with fail
                clear q0_x q1_x q2_x
                refine (unhide H2).mono ?_
                rintro e w17 ⟨rfl, d0⟩
                have d := d0.below w16.heap.size
                clear d0
                replace o_p := o_p.below d
                replace o_s := o_s.below d
                replace o_x := o_x.below d
                replace k_x := k_x.below d k_x.lt
                replace hb := below_after hb d
                clear d
                clear H2
                clear o_p
                clear o_s
                clear o_x k_x
                go_wp2
                go_ret
                exact ⟨rfl, hb⟩
  · rw [show decide (1048576 < n) = true from decide_eq_true (by omega)] at HG
    clear hr hn
    go_enter Tryz.func3, Tryz.ntmps3
    go_wp2_with fail
    refine (unhide HG).mono ?_
    rintro e w0 ⟨rfl, rfl⟩
    go_wp2
    go_ret
    exact ⟨rfl, Below.refl _ _⟩
theorem params_ok : ∀ t ∈ (#[22] : Array TypeId).toList, Tryz.prog.readableRec t = true ∧ t < Tryz.prog.types.size := by
  intro t ht
  simp only [List.mem_cons, List.not_mem_nil, or_false] at ht
  subst ht
  exact ⟨by kernel_rfl, of_decide_eq_true (by kernel_rfl)⟩

set_option maxRecDepth 100000 in
/-- WHAT THE WALK GIVES, FOR EVERY ARGUMENT. -/
theorem contract (H : Type) (enc : TypeId × Value → H) (W : World) (base : Nat) (args : Array Value) (ds gs : List (DataW H)) (before : List MemPlace)
    (hval : ∀ (j : Nat) t v, Tryz.f3.params[j]? = some t → args[j]? = some v → Value.okWide Tryz.prog W .any base t v)
    (hW : DataW.Whole enc Tryz.prog Tryz.f3.params.toList Rows.fnTreesSpec.vars false W args.toList ds gs before) :
    Calls Tryz.prog 3 args W fun e W' => ∃ v, e = .returned v ∧ Rows.fnTreesSpec.post enc Tryz.prog Tryz.f3 false true false false W args v W' := by
  have hW' := hW
  obtain ⟨p, q, hA0, hV, rfl, hfz, hnd⟩ := hW
  have hA : DataW.TrodAll enc Tryz.prog W 0 (fun _ => true) true Tryz.f3.params.toList args.toList ds p := hA0
  rw [Tryz.params3] at hA hval
  obtain ⟨v0, d0, rfl, rfl, h0⟩ := trodAll_one hA
  obtain ⟨rfl, rfl⟩ := trodVars_none hV
  obtain ⟨Abs, nbs, cbs, bs, rfl, hrbs, hnbs⟩ := open_bytes_reads Tryz.underlying22 Tryz.underlying5 cellsByte (hval 0 22 v0 rfl rfl) h0 (fun x hx => by simpa using hW'.lt x (by simp [hx]))
  refine (walk Abs nbs cbs bs W hrbs hnbs).mono fun e W' ⟨he, hb⟩ => ?_
  subst he
  exact ⟨_, rfl, law_end laidOut (by rw [Tryz.params3]; exact params_ok) Tryz.underlying4 rfl rfl hW' rfl hb⟩

set_option maxRecDepth 100000 in
theorem lifted (os : Os) (started : os.Started) (H : Type) (enc : TypeId × Value → H) :
    ReturnsInHanded {} Tryz.checked os 3 .any (Rows.fnTreesSpec.pre6 enc Tryz.prog Tryz.f3 Rows.fnTreesRow.domain false) (Rows.fnTreesSpec.post enc Tryz.prog Tryz.f3 false true false false) := by
  refine returnsInHanded_of_change (C := Tryz.checked) own started (by kernel_rfl) Tryz.func3
    (ChangeSpec.witness6 (enc := enc) (C := Tryz.checked) false ⟨#[], #[.slice none 0 0], []⟩ 8 (by kernel_rfl) (by kernel_rfl) (by kernel_rfl) (by kernel_rfl)) ?_
  intro W base args ds gs before hval hW _ _
  exact contract H enc W base args ds gs before hval hW

theorem proved : Rows.FnTreesSaid :=
  OpenClaim.holds_of_wide 3 Tryz.f3 rfl rfl rfl rfl rfl rfl rfl ⟨rfl, rfl, rfl, rfl, rfl⟩ rfl rfl rfl rfl rfl (by kernel_rfl) Tryz.func3 (by kernel_rfl)
    (of_decide_eq_true (by kernel_rfl)) (by unfold Func.isWrapper; first | (rw [if_pos (by decide +kernel)]; kernel_rfl) | (rw [if_neg (by decide +kernel)]; exact ⟨rfl, rfl⟩))
    (fun os started H enc _ => lifted os started H enc)
end Go.Proofs.YtinnlhfdgbeibaaGreat.fnTrees
