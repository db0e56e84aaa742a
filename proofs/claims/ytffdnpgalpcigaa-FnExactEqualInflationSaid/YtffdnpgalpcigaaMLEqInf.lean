/-
  For every two structs of a row and a list of rows the law FnExactEqualInflation answers true and leaves its arguments as they were.
  Conditions: none beyond the row's own (what is read lies within the row's reach).
-/
import Derived.Test.YtffdnpgalpcigaaB7
import Derived.Deep.RegionHeld3




namespace Go.Proofs.Ytffdnpgalpcigaa.fnExactEqualInflation
set_option maxRecDepth 100000
open Go.ChangeShapes Go.WideShapes Go.ChangeAt Go.RowKit

theorem keep4 {wr w : World} {p q r s : Addr} {v u x y : Value} (h : wr.cell? p = some v) (h' : wr.cell? q = some u) (h2 : wr.cell? r = some x) (h3 : wr.cell? s = some y) (hp : p.block < wr.heap.size) (hq : q.block < wr.heap.size) (hr : r.block < wr.heap.size) (hs : s.block < wr.heap.size) (hb : Below wr.heap.size wr w) :
    w.cell? p = some v ∧ w.cell? q = some u ∧ w.cell? r = some x ∧ w.cell? s = some y ∧ Below wr.heap.size wr w :=
  ⟨(hb.cell hp).trans h, (hb.cell hq).trans h', (hb.cell hr).trans h2, (hb.cell hs).trans h3, hb⟩
/-- What the law knows of one of its arguments. -/
structure Arg2 (w : World) (B : Nat) (A : Option Addr) (n : Nat) (P : Option Addr) (m : Nat) (p : List Int) (pss : List (List Int)) : Prop where
  row : Reads w B A n (i64s p)
  pcs : ReadsS w B P m pss
theorem Arg2.below {w w' : World} {B n m : Nat} {A P : Option Addr} {p : List Int} {pss : List (List Int)} (h : Arg2 w B A n P m p pss) (hb : Below B w w') : Arg2 w' B A n P m p pss := ⟨h.row.below hb, h.pcs.below hb⟩
theorem inf_argR {w : World} {B n c : Nat} {A : Option Addr} {pv : Value} {p : List Int} {pss : List (List Int)} (h : InfAt w B (.slice A n c) pv p pss) (hn : n ≤ 1048576) (hs : Small p) : Arg w w.heap.size A n c p := h.row.arg hn h.row.cap hs
theorem inf_atP {w : World} {B n c : Nat} {A : Option Addr} {rv : Value} {p : List Int} {pss : List (List Int)} (h : InfAt w B rv (.slice A n c) p pss) (hs : ∀ z ∈ pss, z.length ≤ 1048576 ∧ Small z) : AtS w A n pss := h.pcs.intsS.atS hs

set_option maxRecDepth 100000 in
set_option maxHeartbeats 3200000 in
theorem walk (w : World) (A1 P1 A2 P2 : Option Addr) (n1 c1 m1 d1 n2 c2 m2 d2 : Nat) (p q : List Int) (pss qss : List (List Int))
    (h1 : Arg2 w w.heap.size A1 n1 P1 m1 p pss) (h2 : Arg2 w w.heap.size A2 n2 P2 m2 q qss) (hn1 : n1 ≤ maxLen) (hm1 : m1 ≤ maxLen) (hn2 : n2 ≤ maxLen) (hm2 : m2 ≤ maxLen) (hp : Small p) (hq : Small q)
    (hs1 : ∀ z ∈ pss, z.length ≤ maxLen ∧ Small z) (hs2 : ∀ z ∈ qss, z.length ≤ maxLen ∧ Small z) :
    Calls Try.prog 4 #[.agg #[.slice A1 n1 c1, .slice P1 m1 d1], .agg #[.slice A2 n2 c2, .slice P2 m2 d2]] w fun e w' => e = .returned (.bool true) ∧ Below w.heap.size w w' := by
  have b1 := (Below.refl _ w).alloc (Nat.le_refl _) (.cells #[.slice A1 n1 c1, .slice P1 m1 d1] 34)
  have b2 := b1.alloc (by simp) (.cells #[.slice A2 n2 c2, .slice P2 m2 d2] 34)
  have g1 := (Whole.new w 34 #[.slice A1 n1 c1, .slice P1 m1 d1]).alloc (.cells #[.slice A2 n2 c2, .slice P2 m2 d2] 34)
  have g2 := Whole.new (w.alloc (.cells #[.slice A1 n1 c1, .slice P1 m1 d1] 34)) 34 #[.slice A2 n2 c2, .slice P2 m2 d2]
  simp only [World.size_alloc] at g2
  obtain ⟨w0, hw0⟩ : ∃ W : World, W = (w.alloc (.cells #[.slice A1 n1 c1, .slice P1 m1 d1] 34)).alloc (.cells #[.slice A2 n2 c2, .slice P2 m2 d2] 34) := ⟨_, rfl⟩
  have z0 : w.heap.size + 2 = w0.heap.size := by rw [hw0]; simp
  rw [← hw0] at b2 g1 g2
  have S1 := hide (fun (w' : World) (hb : Below w.heap.size w w') => szinf_any A1 P1 n1 c1 m1 d1 w.heap.size pss 1048576 (by omega) w' (h1.below hb).pcs hb.size hn1 hm1 (fun z hz => (hs1 z hz).1))
  by_cases hA : n1 + m1 + tot pss ≤ 1048576
  rotate_left
  · have e1 : szX 1048576 n1 m1 pss = -1 := by unfold szX; rw [if_pos (by omega)]
    rw [e1] at S1
    have H1 := hide (unhide S1 w0 b2)
    rw [hw0] at H1
    clear S1 e1 h1 h2 hA hs1 hs2 hp hq g1 g2 b1 z0
    rw [hw0] at b2
    clear hw0
    go_enter Try.func4, Try.ntmps4
    go_wp2_with fail
    refine (unhide H1).mono ?_
    rintro e w3 ⟨rfl, d⟩
    have hb := below_after b2 d
    clear H1 d b2
    go_wp2
    go_ret
    exact ⟨rfl, hb⟩
  obtain ⟨L, hL⟩ : ∃ L, szX 1048576 n1 m1 pss = L := ⟨_, rfl⟩
  have hL2 : L = 1048576 - n1 - m1 - tot pss := by rw [← hL]; unfold szX; rw [if_neg (by omega)]
  have hL0 : ¬ L < 0 := by omega
  rw [hL] at S1
  have S2 := hide (fun (w' : World) (hb : Below w.heap.size w w') => szinf_any A2 P2 n2 c2 m2 d2 w.heap.size qss L (by omega) w' (h2.below hb).pcs hb.size hn2 hm2 (fun z hz => (hs2 z hz).1))
  have H1 := hide (unhide S1 w0 b2)
  rw [hw0] at H1
  clear S1
  by_cases hB : n2 + m2 + tot qss ≤ 1048576 - (n1 + m1 + tot pss)
  rotate_left
  · have e1 : szX L n2 m2 qss = -1 := by unfold szX; rw [if_pos (by omega)]
    rw [e1] at S2
    have r0 := g2.cell 0
    have r1 := g2.cell 1
    have r2 := g2.lt
    clear e1 h1 h2 hA hB hs1 hs2 hp hq g1 b1 hL hL2
    simp only [List.getElem?_toArray, List.getElem?_cons_zero, List.getElem?_cons_succ] at r0 r1
    rw [hw0] at b2 g2
    clear r0 r1 r2 z0 hw0
    go_enter Try.func4, Try.ntmps4
    go_wp2_with fail
    refine (unhide H1).mono ?_
    rintro e w3 ⟨rfl, d⟩
    have hb := below_after b2 d
    have g3 := g2.below d g2.lt
    have r0 := g3.cell 0
    have r1 := g3.cell 1
    simp only [List.getElem?_toArray, List.getElem?_cons_zero, List.getElem?_cons_succ] at r0 r1
    have H2 := hide (unhide S2 w3 hb)
    clear H1 d b2 g2 g3
    go_wp2_with fail
    refine (unhide H2).mono ?_
    rintro e w4 ⟨rfl, d⟩
    have hb4 := below_after hb d
    clear H2 S2 d hb r0 r1
    go_wp2
    go_ret
    exact ⟨rfl, hb4⟩
  obtain ⟨L2, hM⟩ : ∃ L2, szX L n2 m2 qss = L2 := ⟨_, rfl⟩
  have hM0 : ¬ L2 < 0 := by rw [← hM]; unfold szX; rw [if_neg (by omega)]; omega
  rw [hM] at S2
  have ht1 : ∀ z ∈ pss, z.length ≤ 1048576 ∧ Small z := small_of_tot (by have := h1.pcs.len; omega) hs1
  have ht2 : ∀ z ∈ qss, z.length ≤ 1048576 ∧ Small z := small_of_tot (by have := h2.pcs.len; omega) hs2
  have hl1 : p.length = n1 ∧ pss.length = m1 := ⟨by have := h1.row.1; rwa [i64_length] at this, h1.pcs.len⟩
  have hl2 : q.length = n2 ∧ qss.length = m2 := ⟨by have := h2.row.1; rwa [i64_length] at this, h2.pcs.len⟩
  have T1 := hide (fun (w' : World) (hb : Below w.heap.size w w') => toinf_any A1 P1 n1 c1 m1 d1 w.heap.size p pss w' (h1.below hb).row (h1.below hb).pcs hb.size (by omega) (by omega) (fun z hz => (ht1 z hz).1))
  have T2 := hide (fun (w' : World) (hb : Below w.heap.size w w') => toinf_any A2 P2 n2 c2 m2 d2 w.heap.size q qss w' (h2.below hb).row (h2.below hb).pcs hb.size (by omega) (by omega) (fun z hz => (ht2 z hz).1))
  obtain ⟨b, hb⟩ : ∃ b, (decide (p = q) && decide (pss = qss)) = b := ⟨_, rfl⟩
  have SP := hide (fun (w' : World) B B' A P c d A' P' c' d' (x : InfAt w' B (.slice A p.length c) (.slice P pss.length d) p pss) (y : InfAt w' B' (.slice A' q.length c') (.slice P' qss.length d') q qss) =>
    seqinf_any A P A' P' p.length c _ pss.length d q.length c' _ qss.length d' p q pss qss b hb w' (inf_argR x (by omega) hp) (inf_argR y (by omega) hq) (inf_atP x ht1) (inf_atP y ht2) (by omega) (by omega))
  have IM := hide (fun (w' : World) B B' A P c d A' P' c' d' (x : InfAt w' B (.slice A p.length c) (.slice P pss.length d) p pss) (y : InfAt w' B' (.slice A' q.length c') (.slice P' qss.length d') q qss) =>
    ieqinf_any A P A' P' p.length c _ pss.length d q.length c' _ qss.length d' p q pss qss b hb w' (inf_argR x (by omega) hp) (inf_argR y (by omega) hq) (inf_atP x ht1) (inf_atP y ht2) (by omega) (by omega))
  have ED := hide (fun (w' : World) B B' A P c d A' P' c' d' (x : InfAt w' B (.slice A p.length c) (.slice P pss.length d) p pss) (y : InfAt w' B' (.slice A' p.length c') (.slice P' pss.length d') p pss) =>
    eqinf_any A P A' P' p.length c pss.length d p.length c' pss.length d' B B' p pss w' x y (by omega) (by omega) (by omega))
  have ED2 := hide (fun (w' : World) B B' A P c d A' P' c' d' (x : InfAt w' B (.slice A q.length c) (.slice P qss.length d) q qss) (y : InfAt w' B' (.slice A' q.length c') (.slice P' qss.length d') q qss) =>
    eqinf_any A P A' P' q.length c qss.length d q.length c' qss.length d' B B' q qss w' x y (by omega) (by omega) (by omega))
  clear hs1 hs2 h1 h2 hp hq ht1 ht2 hL hM hL2 hA hB hn1 hm1 hn2 hm2 hl1 hl2 b1 hb
  have l1 := g1.lt
  have l2 := g2.lt
  rw [hw0] at b2 g1 g2 l1 l2
  clear hw0 z0
  cases b
  all_goals
    go_enter Try.func4, Try.ntmps4
    go_wp2_with fail
    refine (unhide H1).mono ?_
    rintro e w1 ⟨rfl, d⟩
    have hb := below_after b2 d
    have k1 := g1.below d l1
    have k2 := g2.below d l2
    have q0_k2 := k2.cell 0
    have q1_k2 := k2.cell 1
    have q2_k2 := k2.lt
    simp only [List.getElem?_toArray, List.getElem?_cons_zero, List.getElem?_cons_succ] at q0_k2 q1_k2
    have H2 := hide (unhide S2 w1 hb)
    clear H1 d b2 g1 g2 l1 l2 S2
    go_wp2_with fail
    refine (unhide H2).mono ?_
    rintro e w2 ⟨rfl, d⟩
    replace hb := below_after hb d
    replace k1 := k1.below d k1.lt
    replace k2 := k2.below d k2.lt
    clear d
    clear q0_k2 q1_k2 q2_k2
    clear H2
    have q0_k1 := k1.cell 0
    have q1_k1 := k1.cell 1
    have q2_k1 := k1.lt
    simp only [List.getElem?_toArray, List.getElem?_cons_zero, List.getElem?_cons_succ] at q0_k1 q1_k1
    have q0_k2 := k2.cell 0
    have q1_k2 := k2.cell 1
    have q2_k2 := k2.lt
    simp only [List.getElem?_toArray, List.getElem?_cons_zero, List.getElem?_cons_succ] at q0_k2 q1_k2
    have hb0 := Below.refl w2.heap.size w2
    have hbd : Below w.heap.size w w2.drew := hb.drew
    go_wp2
    go_region_held3 (fun w' => w'.cell? ⟨w.heap.size, 0, none⟩ = some (.slice A1 n1 c1) ∧ w'.cell? ⟨w.heap.size, 1, none⟩ = some (.slice P1 m1 d1) ∧ w'.cell? ⟨w.heap.size + 1, 0, none⟩ = some (.slice A2 n2 c2) ∧ w'.cell? ⟨w.heap.size + 1, 1, none⟩ = some (.slice P2 m2 d2) ∧ Below w2.heap.size w2 w') ((refine keep4 q0_k1 q1_k1 q0_k2 q1_k2 q2_k1 q2_k1 q2_k2 q2_k2 ?_; first | assumption | (apply Below.drew; assumption)))
      (first
        | (have hbd2 := hbd; clear hbd; go_simp; go_at_call 19; refine (unhide T1 _ hbd2).mono ?_; clear hbd2; rintro e w3 ⟨A3, c3, P3, d3, rfl, i3, x3⟩; have hb3 : Below w2.heap.size w2 w3 := (hb0.drew).trans x3; have hbw3 := below_after hb hb3)
        | (go_simp; go_at_call 19; refine (unhide T2 _ hbw3).mono ?_; rintro e w4 ⟨A4, c4, P4, d4, rfl, i4, x4⟩; have hb4 := below_after hb3 x4; have j3 := i3.below x4; have HS := hide (unhide SP w4 _ _ _ _ _ _ _ _ _ _ j3 i4))
        | (go_simp; go_at_call 18; refine (unhide HS).mono ?_; rintro e w5 ⟨rfl, x5⟩; have hb5 := below_after hb4 x5))
    clear i3 x3 hbw3 hb3 i4 x4 hb4 j3 HS x5 hb0
    clear q0_k1 q1_k1 q2_k1
    clear q0_k2 q1_k2 q2_k2
    have d := hb5
    clear hb5 SP
    replace hb := below_after hb d
    replace k1 := k1.below d k1.lt
    replace k2 := k2.below d k2.lt
    clear d
    have q0_k1 := k1.cell 0
    have q1_k1 := k1.cell 1
    have q2_k1 := k1.lt
    simp only [List.getElem?_toArray, List.getElem?_cons_zero, List.getElem?_cons_succ] at q0_k1 q1_k1
    go_wp2_with fail
    refine (unhide T1 _ hb).mono ?_
    rintro e w6 ⟨A6, c6, P6, d6, rfl, i6, d⟩
    clear q0_k1 q1_k1 q2_k1
    replace hb := below_after hb d
    replace k1 := k1.below d k1.lt
    replace k2 := k2.below d k2.lt
    clear d
    have q0_k2 := k2.cell 0
    have q1_k2 := k2.cell 1
    have q2_k2 := k2.lt
    simp only [List.getElem?_toArray, List.getElem?_cons_zero, List.getElem?_cons_succ] at q0_k2 q1_k2
    go_wp2_with fail
    clear q0_k2 q1_k2 q2_k2
    obtain ⟨w7, hw⟩ : ∃ W : World, W = w6.alloc (.cells #[.slice A6 p.length c6, .slice P6 pss.length d6] 25) := ⟨_, rfl⟩
    rw [← hw]
    have d : Below w6.heap.size w6 w7 := by rw [hw]; exact (Below.refl _ _).alloc (Nat.le_refl _) _
    have kx : Whole w7 w6.heap.size 25 #[.slice A6 p.length c6, .slice P6 pss.length d6] := by rw [hw]; exact Whole.new _ _ _
    clear hw
    replace i6 := i6.below d
    replace hb := below_after hb d
    replace k1 := k1.below d k1.lt
    replace k2 := k2.below d k2.lt
    clear d
    refine (unhide T2 _ hb).mono ?_
    rintro e w8 ⟨A8, c8, P8, d8, rfl, i8, d⟩
    replace i6 := i6.below d
    replace kx := kx.below d kx.lt
    replace hb := below_after hb d
    replace k1 := k1.below d k1.lt
    replace k2 := k2.below d k2.lt
    clear d
    have q0_kx := kx.cell 0
    have q1_kx := kx.cell 1
    have q2_kx := kx.lt
    simp only [List.getElem?_toArray, List.getElem?_cons_zero, List.getElem?_cons_succ] at q0_kx q1_kx
    go_wp2_with fail
    clear q0_kx q1_kx q2_kx
    obtain ⟨w9, hw⟩ : ∃ W : World, W = w8.alloc (.cells #[.slice A8 q.length c8, .slice P8 qss.length d8] 25) := ⟨_, rfl⟩
    rw [← hw]
    have d : Below w8.heap.size w8 w9 := by rw [hw]; exact (Below.refl _ _).alloc (Nat.le_refl _) _
    have ky : Whole w9 w8.heap.size 25 #[.slice A8 q.length c8, .slice P8 qss.length d8] := by rw [hw]; exact Whole.new _ _ _
    clear hw
    replace i6 := i6.below d
    replace i8 := i8.below d
    replace kx := kx.below d kx.lt
    replace hb := below_after hb d
    replace k1 := k1.below d k1.lt
    replace k2 := k2.below d k2.lt
    clear d
    refine (unhide IM w9 _ _ _ _ _ _ _ _ _ _ i6 i8).mono ?_
    rintro e w10 ⟨rfl, d⟩
    replace i6 := i6.below d
    replace i8 := i8.below d
    replace kx := kx.below d kx.lt
    replace ky := ky.below d ky.lt
    replace hb := below_after hb d
    replace k1 := k1.below d k1.lt
    replace k2 := k2.below d k2.lt
    clear d
    clear IM
    have q0_k1 := k1.cell 0
    have q1_k1 := k1.cell 1
    have q2_k1 := k1.lt
    simp only [List.getElem?_toArray, List.getElem?_cons_zero, List.getElem?_cons_succ] at q0_k1 q1_k1
    have q0_kx := kx.cell 0
    have q1_kx := kx.cell 1
    have q2_kx := kx.lt
    simp only [List.getElem?_toArray, List.getElem?_cons_zero, List.getElem?_cons_succ] at q0_kx q1_kx
    have hb0 := Below.refl w10.heap.size w10
    have hbd : Below w.heap.size w w10.drew := hb.drew
    go_wp2
    go_region_held3 (fun w' => w'.cell? ⟨w.heap.size, 0, none⟩ = some (.slice A1 n1 c1) ∧ w'.cell? ⟨w.heap.size, 1, none⟩ = some (.slice P1 m1 d1) ∧ w'.cell? ⟨w6.heap.size, 0, none⟩ = some (.slice A6 p.length c6) ∧ w'.cell? ⟨w6.heap.size, 1, none⟩ = some (.slice P6 pss.length d6) ∧ Below w10.heap.size w10 w') ((refine keep4 q0_k1 q1_k1 q0_kx q1_kx q2_k1 q2_k1 q2_kx q2_kx ?_; first | assumption | (apply Below.drew; assumption)))
      (first
        | (have hbd2 := hbd; clear hbd; go_simp; go_at_call 19; refine (unhide T1 _ hbd2).mono ?_; clear hbd2; rintro e w3 ⟨A3, c3, P3, d3, rfl, i3, x3⟩; have hb3 : Below w10.heap.size w10 w3 := (hb0.drew).trans x3; have j6 := i6.below hb3; have HS := hide (unhide ED w3 _ _ _ _ _ _ _ _ _ _ j6 i3))
        | (go_simp; go_at_call 12; refine (unhide HS).mono ?_; rintro e w5 ⟨rfl, x5⟩; have hb5 := below_after hb3 x5))
    clear i3 x3 hb3 j6 HS x5 hb0
    clear q0_k1 q1_k1 q2_k1
    clear q0_kx q1_kx q2_kx
    have d := hb5
    clear hb5 ED T1 kx i6
    replace i8 := i8.below d
    replace ky := ky.below d ky.lt
    replace hb := below_after hb d
    replace k1 := k1.below d k1.lt
    replace k2 := k2.below d k2.lt
    clear d
    have q0_k2 := k2.cell 0
    have q1_k2 := k2.cell 1
    have q2_k2 := k2.lt
    simp only [List.getElem?_toArray, List.getElem?_cons_zero, List.getElem?_cons_succ] at q0_k2 q1_k2
    have q0_ky := ky.cell 0
    have q1_ky := ky.cell 1
    have q2_ky := ky.lt
    simp only [List.getElem?_toArray, List.getElem?_cons_zero, List.getElem?_cons_succ] at q0_ky q1_ky
    have hb0 := Below.refl w5.heap.size w5
    have hbd : Below w.heap.size w w5.drew := hb.drew
    go_wp2
    go_region_held3 (fun w' => w'.cell? ⟨w.heap.size + 1, 0, none⟩ = some (.slice A2 n2 c2) ∧ w'.cell? ⟨w.heap.size + 1, 1, none⟩ = some (.slice P2 m2 d2) ∧ w'.cell? ⟨w8.heap.size, 0, none⟩ = some (.slice A8 q.length c8) ∧ w'.cell? ⟨w8.heap.size, 1, none⟩ = some (.slice P8 qss.length d8) ∧ Below w5.heap.size w5 w') ((refine keep4 q0_k2 q1_k2 q0_ky q1_ky q2_k2 q2_k2 q2_ky q2_ky ?_; first | assumption | (apply Below.drew; assumption)))
      (first
        | (have hbd2 := hbd; clear hbd; go_simp; go_at_call 19; refine (unhide T2 _ hbd2).mono ?_; clear hbd2; rintro e w3 ⟨A3, c3, P3, d3, rfl, i3, x3⟩; have hb3 : Below w5.heap.size w5 w3 := (hb0.drew).trans x3; have j6 := i8.below hb3; have HS := hide (unhide ED2 w3 _ _ _ _ _ _ _ _ _ _ j6 i3))
        | (go_simp; go_at_call 12; refine (unhide HS).mono ?_; rintro e w11 ⟨rfl, x5⟩; have hb5 := below_after hb3 x5))
    clear i3 x3 hb3 j6 HS x5 hb0
    clear q0_k2 q1_k2 q2_k2
    clear q0_ky q1_ky q2_ky
    replace hb := below_after hb hb5
    clear hb5 ED2 T2 ky i8 k1 k2
    go_wp2
    go_ret
    exact ⟨rfl, hb⟩

theorem params_ok : ∀ t ∈ (#[34, 34] : Array TypeId).toList, Try.prog.readableRec t = true ∧ t < Try.prog.types.size := by
  intro t ht
  simp only [List.mem_cons, List.not_mem_nil, or_false] at ht
  rcases ht with rfl | rfl
  all_goals exact ⟨by kernel_rfl, of_decide_eq_true (by kernel_rfl)⟩

set_option maxRecDepth 100000 in
/-- WHAT THE WALK GIVES, FOR EVERY ARGUMENT. -/
theorem contract (H : Type) (enc : TypeId × Value → H) (W : World) (base : Nat) (args : Array Value) (ds gs : List (DataW H)) (before : List MemPlace)
    (hval : ∀ (j : Nat) t v, Try.f4.params[j]? = some t → args[j]? = some v → Value.okWide Try.prog W .any base t v)
    (hW : DataW.Whole enc Try.prog Try.f4.params.toList Rows.fnExactEqualInflationSpec.vars false W args.toList ds gs before) :
    Calls Try.prog 4 args W fun e W' => ∃ v, e = .returned v ∧ Rows.fnExactEqualInflationSpec.post enc Try.prog Try.f4 false true false false W args v W' := by
  have hW' := hW
  obtain ⟨p, q, hA0, hV, rfl, hfz, hnd⟩ := hW
  have hA : DataW.TrodAll enc Try.prog W 0 (fun _ => true) true Try.f4.params.toList args.toList ds p := hA0
  rw [Try.params4] at hA hval
  obtain ⟨v0, v1, d0, d1, p0, p1, rfl, rfl, rfl, h0, h1⟩ := trodAll_two hA
  obtain ⟨rfl, rfl⟩ := trodVars_none hV
  obtain ⟨f01, f11, y01, y11, k1, rfl, rfl, hpl1, t01, t11⟩ := Go.Joins.open_agg2 Try.underlying34 (by kernel_rfl) (by kernel_rfl) (hval 1 34 v1 rfl rfl) h1
  obtain ⟨Ab, nb, cb, b, rfl, hrb, hnb, smb⟩ := open_ints_cell Try.underlying22 Try.underlying3 cellsInt t01 (fun x hx => by simpa using hW'.lt x (by simp [hpl1, hx]))
  obtain ⟨Pb, mb, db, bb, rfl, hqb, hmb, snb⟩ := open_intss_cell Try.underlying23 Try.underlying22 Try.underlying3 cellsRow cellsInt t11 (fun x hx => by simpa using hW'.lt x (by simp [hpl1, hx]))
  obtain ⟨f00, f10, y00, y10, k0, rfl, rfl, hpl0, t00, t10⟩ := Go.Joins.open_agg2 Try.underlying34 (by kernel_rfl) (by kernel_rfl) (hval 0 34 v0 rfl rfl) h0
  obtain ⟨Aa, na, ca, a, rfl, hra, hna, sma⟩ := open_ints_cell Try.underlying22 Try.underlying3 cellsInt t00 (fun x hx => by simpa using hW'.lt x (by simp [hpl0, hx]))
  obtain ⟨Pa, ma, da, aa, rfl, hqa, hma, sna⟩ := open_intss_cell Try.underlying23 Try.underlying22 Try.underlying3 cellsRow cellsInt t10 (fun x hx => by simpa using hW'.lt x (by simp [hpl0, hx]))
  refine (walk W Aa Pa Ab Pb na ca ma da nb cb mb db a b aa bb ⟨hra, hqa⟩ ⟨hrb, hqb⟩ hna hma hnb hmb sma smb sna snb).mono fun e W' ⟨he, hb⟩ => ?_
  subst he
  exact ⟨_, rfl, law_end laidOut (by rw [Try.params4]; exact params_ok) Try.underlying4 rfl rfl hW' rfl hb⟩

set_option maxRecDepth 100000 in
theorem lifted (os : Os) (started : os.Started) (H : Type) (enc : TypeId × Value → H) :
    ReturnsInHanded {} Try.checked os 4 .any (Rows.fnExactEqualInflationSpec.pre6 enc Try.prog Try.f4 Rows.fnExactEqualInflationRow.domain false) (Rows.fnExactEqualInflationSpec.post enc Try.prog Try.f4 false true false false) := by
  refine returnsInHanded_of_change (C := Try.checked) own started (by kernel_rfl) Try.func4
    (ChangeSpec.witness6 (enc := enc) (C := Try.checked) false ⟨#[], #[.agg #[.slice none 0 0, .slice none 0 0], .agg #[.slice none 0 0, .slice none 0 0]], []⟩ 8 (by kernel_rfl) (by kernel_rfl) (by kernel_rfl) (by kernel_rfl)) ?_
  intro W base args ds gs before hval hW _ _
  exact contract H enc W base args ds gs before hval hW

theorem proved : Rows.FnExactEqualInflationSaid :=
  OpenClaim.holds_of_wide 4 Try.f4 rfl rfl rfl rfl rfl rfl rfl ⟨rfl, rfl, rfl, rfl, rfl⟩ rfl rfl rfl rfl rfl (by kernel_rfl) Try.func4 (by kernel_rfl)
    (of_decide_eq_true (by kernel_rfl)) (by unfold Func.isWrapper; first | (rw [if_pos (by decide +kernel)]; kernel_rfl) | (rw [if_neg (by decide +kernel)]; exact ⟨rfl, rfl⟩))
    (fun os started H enc _ => lifted os started H enc)
end Go.Proofs.Ytffdnpgalpcigaa.fnExactEqualInflation
