/-
  For every struct of a list and a list of lists the law FnExactInverseMesh answers true and leaves its argument as it was.
  Conditions: none beyond the row's own (what is read lies within the row's reach).
-/
import Derived.Test.YtcoegjhhhnfplaaB9
import Derived.Test.YtcoegjhhhnfplaaB6
import Derived.Test.YtcoegjhhhnfplaaB10
import Derived.Test.YtcoegjhhhnfplaaB5
import Derived.Test.YtcoegjhhhnfplaaB2
import Derived.Deep.RegionHeld3









namespace Go.Proofs.Ytcoegjhhhnfplaa.fnExactInverseMesh
set_option maxRecDepth 100000
open Go.ChangeShapes Go.WideShapes Go.ChangeAt Go.RowKit

theorem keep2 {wr w : World} {p q : Addr} {v u : Value} (h : wr.cell? p = some v) (h' : wr.cell? q = some u) (hp : p.block < wr.heap.size) (hq : q.block < wr.heap.size) (hb : Below wr.heap.size wr w) :
    w.cell? p = some v ∧ w.cell? q = some u ∧ Below wr.heap.size wr w := ⟨(hb.cell hp).trans h, (hb.cell hq).trans h', hb⟩
theorem keep4 {wr w : World} {p q r s : Addr} {v u x y : Value} (h : wr.cell? p = some v) (h' : wr.cell? q = some u) (h2 : wr.cell? r = some x) (h3 : wr.cell? s = some y) (hp : p.block < wr.heap.size) (hq : q.block < wr.heap.size) (hr : r.block < wr.heap.size) (hs : s.block < wr.heap.size) (hb : Below wr.heap.size wr w) :
    w.cell? p = some v ∧ w.cell? q = some u ∧ w.cell? r = some x ∧ w.cell? s = some y ∧ Below wr.heap.size wr w :=
  ⟨(hb.cell hp).trans h, (hb.cell hq).trans h', (hb.cell hr).trans h2, (hb.cell hs).trans h3, hb⟩
theorem inf_arg {w : World} {B n c : Nat} {A : Option Addr} {pv : Value} {p : List Int} {pss : List (List Int)} (h : InfAt w B (.slice A n c) pv p pss) (hn : n ≤ 1048576) (hs : Small p) : Arg w w.heap.size A n c p := h.row.arg hn h.row.cap hs
theorem inf_rows {w : World} {B n c : Nat} {A : Option Addr} {rv : Value} {p : List Int} {pss : List (List Int)} (h : InfAt w B rv (.slice A n c) p pss) (hs : ∀ z ∈ pss, z.length ≤ 1048576 ∧ Small z) : AtS w A n pss := h.pcs.intsS.atS hs
set_option maxRecDepth 100000 in
set_option maxHeartbeats 6400000 in
theorem walk (w : World) (A P : Option Addr) (n c m d : Nat) (q : List Int) (S : List (List Int)) (h1 : Reads w w.heap.size A n (i64s q)) (h2 : ReadsS w w.heap.size P m S) (hn : n ≤ maxLen) (hm : m ≤ maxLen) (hq : Small q) (hJ : ∀ z ∈ S, z.length ≤ maxLen ∧ Small z) (R : List Int) (Q : List (List Int)) (ok : Bool) (hRQ : S.length ≤ 1048576 → R.length ≤ 1048576 ∧ Q.length ≤ 1048576 ∧ tot Q ≤ 1048576)
    (Sp : Hid (∀ (w : World) (A P : Option Addr) (n c B m d : Nat), Arg w B A n c q → AtS w P m S → m ≤ 1048576 → Calls Try.prog 17 #[.agg #[.slice A n c, .slice P m d]] w (GivesXB w R Q ok)))
    (I : Hid (∀ (w : World) (A P : Option Addr) (n c B m d : Nat), Arg w B A n c q → AtS w P m S → m ≤ 1048576 → Calls Try.prog 16 #[.agg #[.slice A n c, .slice P m d]] w (GivesXB w R Q ok))) :
    Calls Try.prog 8 #[.agg #[.slice A n c, .slice P m d]] w fun e w' => e = .returned (.bool true) ∧ Below w.heap.size w w' := by
  have b1 := (Below.refl _ w).alloc (Nat.le_refl _) (.cells #[.slice A n c, .slice P m d] 48)
  have g1 := Whole.new w 48 #[.slice A n c, .slice P m d]
  have l1 := g1.lt
  have S1 := hide (szmesh_any A P n c m d w.heap.size S 1048576 (by omega) (w.alloc (.cells #[.slice A n c, .slice P m d] 48)) (h2.below b1) b1.size hn hm (fun z hz => (hJ z hz).1))
  by_cases hA : n + m + tot S ≤ 1048576
  rotate_left
  · have e1 : szX 1048576 n m S = -1 := by unfold szX; rw [if_pos (by omega)]
    rw [e1] at S1
    clear e1 h1 h2 hA hq hJ g1 l1 Sp I
    go_enter Try.func8, Try.ntmps8
    go_wp2_with fail
    refine (unhide S1).mono ?_
    rintro e w3 ⟨rfl, d⟩
    have hb := below_after b1 d
    clear S1 d b1
    go_wp2
    go_ret
    exact ⟨rfl, hb⟩
  obtain ⟨L, hL⟩ : ∃ L, szX 1048576 n m S = L := ⟨_, rfl⟩
  have hL0 : ¬ L < 0 := by rw [← hL]; unfold szX; rw [if_neg (by omega)]; omega
  rw [hL] at S1
  have ht : ∀ z ∈ S, z.length ≤ 1048576 ∧ Small z := small_of_tot (by have := h2.len; omega) hJ
  have T1 := hide (fun (w' : World) (hb : Below w.heap.size w w') => tomesh_any A P n c m d w.heap.size q S w' (h1.below hb) (h2.below hb) hb.size (by omega) (by omega) (fun z hz => (ht z hz).1))
  have hl1 : q.length = n := by have := h1.1; rwa [i64_length] at this
  have hl2 : S.length = m := h2.len
  have hql : q.length ≤ 1048576 := by omega
  have hjl : S.length ≤ 1048576 := by omega
  have htl : tot S ≤ 1048576 := by omega
  obtain ⟨hR, hQ, hT⟩ := hRQ hjl
  have SP := hide (fun (w' : World) B A P c d (x : InfAt w' B (.slice A q.length c) (.slice P S.length d) q S) => unhide Sp w' A P q.length c _ S.length d (inf_arg x (by omega) hq) (inf_rows x ht) (by omega))
  have IM := hide (fun (w' : World) B A P c d (x : InfAt w' B (.slice A q.length c) (.slice P S.length d) q S) => unhide I w' A P q.length c _ S.length d (inf_arg x (by omega) hq) (inf_rows x ht) (by omega))
  have ED := hide (fun (w' : World) B B' A P c d A' P' c' d' (x : InfAt w' B (.slice A q.length c) (.slice P S.length d) q S) (y : InfAt w' B' (.slice A' q.length c') (.slice P' S.length d') q S) => eqmesh_any A P A' P' q.length c S.length d q.length c' S.length d' B B' q S w' x y (by omega) (by omega) (by omega))
  clear Sp I h1 h2 hq hJ ht hL hA hn hm hl1 hl2
  cases ok
  all_goals
    go_enter Try.func8, Try.ntmps8
    go_wp2_with fail
    refine (unhide S1).mono ?_
    rintro e w1 ⟨rfl, d⟩
    have hb := below_after b1 d
    have z1 := hb.size
    have k_b := g1.below d l1
    have l_b := k_b.lt
    clear S1 d b1 g1 l1
    have q0_b := k_b.cell 0
    have q1_b := k_b.cell 1
    have q2_b := k_b.lt
    simp only [List.getElem?_toArray, List.getElem?_cons_zero, List.getElem?_cons_succ] at q0_b q1_b
    go_wp2_with fail
    refine (unhide T1 _ hb).mono ?_
    rintro e w2 ⟨A_t, c_t, P_t, q_t, rfl, o_t, d⟩
    have z2 := d.size
    replace k_b := k_b.below d k_b.lt
    replace hb := below_after hb d
    clear d
    clear q0_b q1_b q2_b
    replace o_t := o_t.sealed
    go_wp2_with fail
    refine (unhide SP _ _ _ _ _ _ o_t.opened).mono ?_
    rintro e w3 ⟨A_w, c_w, P_w, q_w, rfl, o_w, d⟩
    have z3 := d.size
    replace o_t := o_t.below d
    replace k_b := k_b.below d k_b.lt
    replace hb := below_after hb d
    clear d
    replace o_w := o_w.sealed
    have q0_b := k_b.cell 0
    have q1_b := k_b.cell 1
    have q2_b := k_b.lt
    simp only [List.getElem?_toArray, List.getElem?_cons_zero, List.getElem?_cons_succ] at q0_b q1_b
    go_wp2_with fail
    clear q0_b q1_b q2_b
    obtain ⟨w4, hw⟩ : ∃ W : World, W = w3.alloc (.cells #[.slice A_w R.length c_w, .slice P_w Q.length q_w] 27) := ⟨_, rfl⟩
    rw [← hw]
    have d : Below w3.heap.size w3 w4 := by rw [hw]; exact (Below.refl _ _).alloc (Nat.le_refl _) _
    have k_w : Whole w4 w3.heap.size 27 #[.slice A_w R.length c_w, .slice P_w Q.length q_w] := by rw [hw]; exact Whole.new _ _ _
    clear hw
    have z4 := d.size
    replace o_t := o_t.below d
    replace o_w := o_w.below d
    replace k_b := k_b.below d k_b.lt
    replace hb := below_after hb d
    clear d
    have l_w := k_w.lt
    clear o_t
    have q0_b := k_b.cell 0
    have q1_b := k_b.cell 1
    have q2_b := k_b.lt
    simp only [List.getElem?_toArray, List.getElem?_cons_zero, List.getElem?_cons_succ] at q0_b q1_b
    refine (unhide T1 _ hb).mono ?_
    rintro e w5 ⟨A_x, c_x, P_x, q_x, rfl, o_x, d⟩
    have z5 := d.size
    replace o_w := o_w.below d
    replace k_b := k_b.below d k_b.lt
    replace k_w := k_w.below d k_w.lt
    replace hb := below_after hb d
    clear d
    clear q0_b q1_b q2_b
    replace o_x := o_x.sealed
    have q0_b := k_b.cell 0
    have q1_b := k_b.cell 1
    have q2_b := k_b.lt
    simp only [List.getElem?_toArray, List.getElem?_cons_zero, List.getElem?_cons_succ] at q0_b q1_b
    have q0_w := k_w.cell 0
    have q1_w := k_w.cell 1
    have q2_w := k_w.lt
    simp only [List.getElem?_toArray, List.getElem?_cons_zero, List.getElem?_cons_succ] at q0_w q1_w
    go_wp2_with fail
    clear q0_b q1_b q2_b q0_w q1_w q2_w
    obtain ⟨w6, hw⟩ : ∃ W : World, W = w5.alloc (.cells #[.slice A_x q.length c_x, .slice P_x S.length q_x] 27) := ⟨_, rfl⟩
    rw [← hw]
    have d : Below w5.heap.size w5 w6 := by rw [hw]; exact (Below.refl _ _).alloc (Nat.le_refl _) _
    have k_x : Whole w6 w5.heap.size 27 #[.slice A_x q.length c_x, .slice P_x S.length q_x] := by rw [hw]; exact Whole.new _ _ _
    clear hw
    have z6 := d.size
    replace o_w := o_w.below d
    replace o_x := o_x.below d
    replace k_b := k_b.below d k_b.lt
    replace k_w := k_w.below d k_w.lt
    replace hb := below_after hb d
    clear d
    have l_x := k_x.lt
    refine (unhide IM _ _ _ _ _ _ o_x.opened).mono ?_
    rintro e w7 ⟨A_g, c_g, P_g, q_g, rfl, o_g, d⟩
    have z7 := d.size
    replace o_w := o_w.below d
    replace o_x := o_x.below d
    replace k_b := k_b.below d k_b.lt
    replace k_w := k_w.below d k_w.lt
    replace k_x := k_x.below d k_x.lt
    replace hb := below_after hb d
    clear d
    replace o_g := o_g.sealed
    have q0_b := k_b.cell 0
    have q1_b := k_b.cell 1
    have q2_b := k_b.lt
    simp only [List.getElem?_toArray, List.getElem?_cons_zero, List.getElem?_cons_succ] at q0_b q1_b
    have q0_w := k_w.cell 0
    have q1_w := k_w.cell 1
    have q2_w := k_w.lt
    simp only [List.getElem?_toArray, List.getElem?_cons_zero, List.getElem?_cons_succ] at q0_w q1_w
    have q0_x := k_x.cell 0
    have q1_x := k_x.cell 1
    have q2_x := k_x.lt
    simp only [List.getElem?_toArray, List.getElem?_cons_zero, List.getElem?_cons_succ] at q0_x q1_x
    go_wp2_with fail
    clear q0_b q1_b q2_b q0_w q1_w q2_w q0_x q1_x q2_x
    obtain ⟨w8, hw⟩ : ∃ W : World, W = w7.alloc (.cells #[.slice A_g R.length c_g, .slice P_g Q.length q_g] 27) := ⟨_, rfl⟩
    rw [← hw]
    have d : Below w7.heap.size w7 w8 := by rw [hw]; exact (Below.refl _ _).alloc (Nat.le_refl _) _
    have k_g : Whole w8 w7.heap.size 27 #[.slice A_g R.length c_g, .slice P_g Q.length q_g] := by rw [hw]; exact Whole.new _ _ _
    clear hw
    have z8 := d.size
    replace o_w := o_w.below d
    replace o_x := o_x.below d
    replace o_g := o_g.below d
    replace k_b := k_b.below d k_b.lt
    replace k_w := k_w.below d k_w.lt
    replace k_x := k_x.below d k_x.lt
    replace hb := below_after hb d
    clear d
    have l_g := k_g.lt
    have q0_g := k_g.cell 0
    have q1_g := k_g.cell 1
    have q2_g := k_g.lt
    simp only [List.getElem?_toArray, List.getElem?_cons_zero, List.getElem?_cons_succ] at q0_g q1_g
    have q0_w := k_w.cell 0
    have q1_w := k_w.cell 1
    have q2_w := k_w.lt
    simp only [List.getElem?_toArray, List.getElem?_cons_zero, List.getElem?_cons_succ] at q0_w q1_w
    refine (eqmesh_any _ _ _ _ _ _ _ _ _ _ _ _ _ _ _ _ _ o_g.opened o_w.opened (by omega) (by omega) (by omega)).mono ?_
    rintro e w9 ⟨rfl, d⟩
    have z9 := d.size
    replace o_w := o_w.below d
    replace o_x := o_x.below d
    replace o_g := o_g.below d
    replace k_b := k_b.below d k_b.lt
    replace k_w := k_w.below d k_w.lt
    replace k_x := k_x.below d k_x.lt
    replace k_g := k_g.below d k_g.lt
    replace hb := below_after hb d
    clear d
    clear q0_g q1_g q2_g q0_w q1_w q2_w
    have q0_b := k_b.cell 0
    have q1_b := k_b.cell 1
    have q2_b := k_b.lt
    simp only [List.getElem?_toArray, List.getElem?_cons_zero, List.getElem?_cons_succ] at q0_b q1_b
    have q0_x := k_x.cell 0
    have q1_x := k_x.cell 1
    have q2_x := k_x.lt
    simp only [List.getElem?_toArray, List.getElem?_cons_zero, List.getElem?_cons_succ] at q0_x q1_x
    have hb0 := Below.refl w9.heap.size w9
    have hbd : Below w.heap.size w w9.drew := hb.drew
    have ix := o_x.opened
    go_wp2
    go_region_held3 (fun w' => w'.cell? ⟨w.heap.size, 0, none⟩ = some (.slice A n c) ∧ w'.cell? ⟨w.heap.size, 1, none⟩ = some (.slice P m d) ∧ w'.cell? ⟨w5.heap.size, 0, none⟩ = some (.slice A_x q.length c_x) ∧ w'.cell? ⟨w5.heap.size, 1, none⟩ = some (.slice P_x S.length q_x) ∧ Below w9.heap.size w9 w') ((refine keep4 q0_b q1_b q0_x q1_x q2_b q2_b q2_x q2_x ?_; first | assumption | (apply Below.drew; assumption)))
      (first
        | (have hbd2 := hbd; clear hbd; go_simp; go_at_call 31; refine (unhide T1 _ hbd2).mono ?_; clear hbd2; rintro e w97 ⟨A97, c97, P97, d97, rfl, i97, x97⟩; have hb3 : Below w9.heap.size w9 w97 := (hb0.drew).trans x97; have j4 := ix.below hb3; have HS := hide (unhide ED w97 _ _ _ _ _ _ _ _ _ _ j4 i97))
        | (go_simp; go_at_call 32; refine (unhide HS).mono ?_; rintro e w10 ⟨rfl, x5⟩; have hb5 := below_after hb3 x5))
    clear i97 x97 hb3 j4 HS x5 hb0 ix
    clear q0_b q1_b q2_b q0_x q1_x q2_x
    have d := hb5
    clear hb5
    have z10 := d.size
    replace o_w := o_w.below d
    replace o_x := o_x.below d
    replace o_g := o_g.below d
    replace k_b := k_b.below d k_b.lt
    replace k_w := k_w.below d k_w.lt
    replace k_x := k_x.below d k_x.lt
    replace k_g := k_g.below d k_g.lt
    replace hb := below_after hb d
    clear d
    have q0_x := k_x.cell 0
    have q1_x := k_x.cell 1
    have q2_x := k_x.lt
    simp only [List.getElem?_toArray, List.getElem?_cons_zero, List.getElem?_cons_succ] at q0_x q1_x
    go_wp2_with fail
    refine (markmesh_in _ _ _ _ _ _ _ _ 1 _ (by omega) _ _ _ o_x (by omega) (by omega) (by omega)).mono ?_
    rintro e w11 ⟨rfl, m_x, d⟩
    clear o_x
    have o_x := m_x
    clear m_x
    have z11 := d.size
    replace o_w := o_w.turnLow d (by omega)
    replace o_g := o_g.turnHigh d (by omega)
    replace k_b := k_b.turned d (by omega)
    replace k_w := k_w.turned d (by omega)
    replace k_x := k_x.turned d (by omega)
    replace k_g := k_g.turned d (by omega)
    replace hb := hb.trans ((d.below (by omega)).mono (by omega))
    clear d
    clear q0_x q1_x q2_x
    clear o_x
    have q0_g := k_g.cell 0
    have q1_g := k_g.cell 1
    have q2_g := k_g.lt
    simp only [List.getElem?_toArray, List.getElem?_cons_zero, List.getElem?_cons_succ] at q0_g q1_g
    have q0_w := k_w.cell 0
    have q1_w := k_w.cell 1
    have q2_w := k_w.lt
    simp only [List.getElem?_toArray, List.getElem?_cons_zero, List.getElem?_cons_succ] at q0_w q1_w
    go_wp2_with fail
    refine (eqmesh_any _ _ _ _ _ _ _ _ _ _ _ _ _ _ _ _ _ o_g.opened o_w.opened (by omega) (by omega) (by omega)).mono ?_
    rintro e w12 ⟨rfl, d⟩
    have z12 := d.size
    replace o_w := o_w.below d
    replace o_g := o_g.below d
    replace k_b := k_b.below d k_b.lt
    replace k_w := k_w.below d k_w.lt
    replace k_x := k_x.below d k_x.lt
    replace k_g := k_g.below d k_g.lt
    replace hb := below_after hb d
    clear d
    clear q0_g q1_g q2_g q0_w q1_w q2_w
    have q0_g := k_g.cell 0
    have q1_g := k_g.cell 1
    have q2_g := k_g.lt
    simp only [List.getElem?_toArray, List.getElem?_cons_zero, List.getElem?_cons_succ] at q0_g q1_g
    go_wp2_with fail
    refine (markmesh_in _ _ _ _ _ _ _ _ 1 _ (by omega) _ _ _ o_g (by omega) (by omega) (by omega)).mono ?_
    rintro e w13 ⟨rfl, m_x, d⟩
    clear o_g
    have o_g := m_x
    clear m_x
    have z13 := d.size
    replace o_w := o_w.turnLow d (by omega)
    replace k_b := k_b.turned d (by omega)
    replace k_w := k_w.turned d (by omega)
    replace k_x := k_x.turned d (by omega)
    replace k_g := k_g.turned d (by omega)
    replace hb := hb.trans ((d.below (by omega)).mono (by omega))
    clear d
    clear q0_g q1_g q2_g
    have q0_g := k_g.cell 0
    have q1_g := k_g.cell 1
    have q2_g := k_g.lt
    simp only [List.getElem?_toArray, List.getElem?_cons_zero, List.getElem?_cons_succ] at q0_g q1_g
    go_wp2_with fail
    refine (heldmesh_any _ _ _ _ _ _ _ 1 _ (by omega) _ _ _ o_g.opened (by omega) (by omega)).mono ?_
    rintro e w14 ⟨rfl, d⟩
    have z14 := d.size
    replace o_w := o_w.below d
    replace o_g := o_g.below d
    replace k_b := k_b.below d k_b.lt
    replace k_w := k_w.below d k_w.lt
    replace k_x := k_x.below d k_x.lt
    replace k_g := k_g.below d k_g.lt
    replace hb := below_after hb d
    clear d
    clear q0_g q1_g q2_g
    have q0_b := k_b.cell 0
    have q1_b := k_b.cell 1
    have q2_b := k_b.lt
    simp only [List.getElem?_toArray, List.getElem?_cons_zero, List.getElem?_cons_succ] at q0_b q1_b
    go_wp2_with fail
    refine (unhide T1 _ hb).mono ?_
    rintro e w15 ⟨A_t, c_t, P_t, q_t, rfl, o_t, d⟩
    have z15 := d.size
    replace o_w := o_w.below d
    replace o_g := o_g.below d
    replace k_b := k_b.below d k_b.lt
    replace k_w := k_w.below d k_w.lt
    replace k_x := k_x.below d k_x.lt
    replace k_g := k_g.below d k_g.lt
    replace hb := below_after hb d
    clear d
    clear q0_b q1_b q2_b
    replace o_t := o_t.sealed
    go_wp2_with fail
    refine (unhide IM _ _ _ _ _ _ o_t.opened).mono ?_
    rintro e w16 ⟨A_h, c_h, P_h, q_h, rfl, o_h, d⟩
    have z16 := d.size
    replace o_w := o_w.below d
    replace o_g := o_g.below d
    replace o_t := o_t.below d
    replace k_b := k_b.below d k_b.lt
    replace k_w := k_w.below d k_w.lt
    replace k_x := k_x.below d k_x.lt
    replace k_g := k_g.below d k_g.lt
    replace hb := below_after hb d
    clear d
    replace o_h := o_h.sealed
    have q0_b := k_b.cell 0
    have q1_b := k_b.cell 1
    have q2_b := k_b.lt
    simp only [List.getElem?_toArray, List.getElem?_cons_zero, List.getElem?_cons_succ] at q0_b q1_b
    have q0_w := k_w.cell 0
    have q1_w := k_w.cell 1
    have q2_w := k_w.lt
    simp only [List.getElem?_toArray, List.getElem?_cons_zero, List.getElem?_cons_succ] at q0_w q1_w
    have q0_x := k_x.cell 0
    have q1_x := k_x.cell 1
    have q2_x := k_x.lt
    simp only [List.getElem?_toArray, List.getElem?_cons_zero, List.getElem?_cons_succ] at q0_x q1_x
    have q0_g := k_g.cell 0
    have q1_g := k_g.cell 1
    have q2_g := k_g.lt
    simp only [List.getElem?_toArray, List.getElem?_cons_zero, List.getElem?_cons_succ] at q0_g q1_g
    go_wp2_with fail
    clear q0_b q1_b q2_b q0_w q1_w q2_w q0_x q1_x q2_x q0_g q1_g q2_g
    obtain ⟨w17, hw⟩ : ∃ W : World, W = w16.alloc (.cells #[.slice A_h R.length c_h, .slice P_h Q.length q_h] 27) := ⟨_, rfl⟩
    rw [← hw]
    have d : Below w16.heap.size w16 w17 := by rw [hw]; exact (Below.refl _ _).alloc (Nat.le_refl _) _
    have k_h : Whole w17 w16.heap.size 27 #[.slice A_h R.length c_h, .slice P_h Q.length q_h] := by rw [hw]; exact Whole.new _ _ _
    clear hw
    have z17 := d.size
    replace o_w := o_w.below d
    replace o_g := o_g.below d
    replace o_t := o_t.below d
    replace o_h := o_h.below d
    replace k_b := k_b.below d k_b.lt
    replace k_w := k_w.below d k_w.lt
    replace k_x := k_x.below d k_x.lt
    replace k_g := k_g.below d k_g.lt
    replace hb := below_after hb d
    clear d
    have l_h := k_h.lt
    have q0_h := k_h.cell 0
    have q1_h := k_h.cell 1
    have q2_h := k_h.lt
    simp only [List.getElem?_toArray, List.getElem?_cons_zero, List.getElem?_cons_succ] at q0_h q1_h
    have q0_w := k_w.cell 0
    have q1_w := k_w.cell 1
    have q2_w := k_w.lt
    simp only [List.getElem?_toArray, List.getElem?_cons_zero, List.getElem?_cons_succ] at q0_w q1_w
    refine (eqmesh_any _ _ _ _ _ _ _ _ _ _ _ _ _ _ _ _ _ o_h.opened o_w.opened (by omega) (by omega) (by omega)).mono ?_
    rintro e w18 ⟨rfl, d⟩
    have z18 := d.size
    replace o_w := o_w.below d
    replace o_g := o_g.below d
    replace o_t := o_t.below d
    replace o_h := o_h.below d
    replace k_b := k_b.below d k_b.lt
    replace k_w := k_w.below d k_w.lt
    replace k_x := k_x.below d k_x.lt
    replace k_g := k_g.below d k_g.lt
    replace k_h := k_h.below d k_h.lt
    replace hb := below_after hb d
    clear d
    clear q0_h q1_h q2_h q0_w q1_w q2_w
    have q0_g := k_g.cell 0
    have q1_g := k_g.cell 1
    have q2_g := k_g.lt
    simp only [List.getElem?_toArray, List.getElem?_cons_zero, List.getElem?_cons_succ] at q0_g q1_g
    go_wp2_with fail
    refine (heldmesh_any _ _ _ _ _ _ _ 1 _ (by omega) _ _ _ o_g.opened (by omega) (by omega)).mono ?_
    rintro e w19 ⟨rfl, d⟩
    have z19 := d.size
    replace o_w := o_w.below d
    replace o_g := o_g.below d
    replace o_t := o_t.below d
    replace o_h := o_h.below d
    replace k_b := k_b.below d k_b.lt
    replace k_w := k_w.below d k_w.lt
    replace k_x := k_x.below d k_x.lt
    replace k_g := k_g.below d k_g.lt
    replace k_h := k_h.below d k_h.lt
    replace hb := below_after hb d
    clear d
    clear q0_g q1_g q2_g
    go_wp2
    go_ret
    exact ⟨rfl, hb⟩

theorem params_ok : ∀ t ∈ (#[48] : Array TypeId).toList, Try.prog.readableRec t = true ∧ t < Try.prog.types.size := by
  intro t ht
  simp only [List.mem_cons, List.not_mem_nil, or_false] at ht
  subst ht
  exact ⟨by kernel_rfl, of_decide_eq_true (by kernel_rfl)⟩

set_option maxRecDepth 100000 in
/-- WHAT THE WALK GIVES, FOR EVERY ARGUMENT. -/
theorem contract (H : Type) (enc : TypeId × Value → H) (W : World) (base : Nat) (args : Array Value) (ds gs : List (DataW H)) (before : List MemPlace)
    (hval : ∀ (j : Nat) t v, Try.f8.params[j]? = some t → args[j]? = some v → Value.okWide Try.prog W .any base t v)
    (hW : DataW.Whole enc Try.prog Try.f8.params.toList Rows.fnExactInverseMeshSpec.vars false W args.toList ds gs before) :
    Calls Try.prog 8 args W fun e W' => ∃ v, e = .returned v ∧ Rows.fnExactInverseMeshSpec.post enc Try.prog Try.f8 false true false false W args v W' := by
  have hW' := hW
  obtain ⟨p, q, hA0, hV, rfl, hfz, hnd⟩ := hW
  have hA : DataW.TrodAll enc Try.prog W 0 (fun _ => true) true Try.f8.params.toList args.toList ds p := hA0
  rw [Try.params8] at hA hval
  obtain ⟨v0, d0, rfl, rfl, h0⟩ := trodAll_one hA
  obtain ⟨rfl, rfl⟩ := trodVars_none hV
  obtain ⟨f00, f10, y00, y10, k0, rfl, rfl, hpl0, t00, t10⟩ := Go.Joins.open_agg2 Try.underlying48 (by kernel_rfl) (by kernel_rfl) (hval 0 48 v0 rfl rfl) h0
  obtain ⟨Ax, nx, cx, x, rfl, hrx, hnx, smx⟩ := open_ints_cell Try.underlying24 Try.underlying3 cellsInt t00 (fun x hx => by simpa using hW'.lt x (by simp [hpl0, hx]))
  obtain ⟨Px, mx, dx, xx, rfl, hqx, hmx, snx⟩ := open_intss_cell Try.underlying25 Try.underlying24 Try.underlying3 cellsRow cellsInt t10 (fun x hx => by simpa using hW'.lt x (by simp [hpl0, hx]))
  refine (walk W Ax Px nx cx mx dx x xx hrx hqx hnx hmx smx snx (miQ x xx) (miS x xx) (meshOK x xx) (mi_sizes x xx) (hide (fun w A P n c B m d h1 h2 h3 => sinvm_any A P n c B m d x xx w h1 h2 h3)) (hide (fun w A P n c B m d h1 h2 h3 => iinvm_any A P n c B m d x xx w h1 h2 h3))).mono fun e W' ⟨he, hb⟩ => ?_
  subst he
  exact ⟨_, rfl, law_end laidOut (by rw [Try.params8]; exact params_ok) Try.underlying4 rfl rfl hW' rfl hb⟩

set_option maxRecDepth 100000 in
theorem lifted (os : Os) (started : os.Started) (H : Type) (enc : TypeId × Value → H) :
    ReturnsInHanded {} Try.checked os 8 .any (Rows.fnExactInverseMeshSpec.pre6 enc Try.prog Try.f8 Rows.fnExactInverseMeshRow.domain false) (Rows.fnExactInverseMeshSpec.post enc Try.prog Try.f8 false true false false) := by
  refine returnsInHanded_of_change (C := Try.checked) own started (by kernel_rfl) Try.func8
    (ChangeSpec.witness6 (enc := enc) (C := Try.checked) false ⟨#[], #[.agg #[.slice none 0 0, .slice none 0 0]], []⟩ 8 (by kernel_rfl) (by kernel_rfl) (by kernel_rfl) (by kernel_rfl)) ?_
  intro W base args ds gs before hval hW _ _
  exact contract H enc W base args ds gs before hval hW

theorem proved : Rows.FnExactInverseMeshSaid :=
  OpenClaim.holds_of_wide 8 Try.f8 rfl rfl rfl rfl rfl rfl rfl ⟨rfl, rfl, rfl, rfl, rfl⟩ rfl rfl rfl rfl rfl (by kernel_rfl) Try.func8 (by kernel_rfl)
    (of_decide_eq_true (by kernel_rfl)) (by unfold Func.isWrapper; first | (rw [if_pos (by decide +kernel)]; kernel_rfl) | (rw [if_neg (by decide +kernel)]; exact ⟨rfl, rfl⟩))
    (fun os started H enc _ => lifted os started H enc)
end Go.Proofs.Ytcoegjhhhnfplaa.fnExactInverseMesh
