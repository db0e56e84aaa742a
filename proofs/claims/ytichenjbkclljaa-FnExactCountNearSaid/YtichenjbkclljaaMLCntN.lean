/-
  For every list of integers and every struct of two lists the law FnExactCountNear answers true and leaves its arguments as they were.
  Conditions: none beyond the row's own (what is read lies within the row's reach).
-/
import Derived.Test.YtichenjbkclljaaB7
import Derived.Test.YtichenjbkclljaaB8
import Derived.Test.YtichenjbkclljaaB2
import Derived.Test.YtichenjbkclljaaB6
import Derived.Deep.RegionHeld3








namespace Go.Proofs.Ytichenjbkclljaa.fnExactCountNear
set_option maxRecDepth 100000
open Go.ChangeShapes Go.WideShapes Go.ChangeAt Go.RowKit

theorem keep2 {wr w : World} {p q : Addr} {v u : Value} (h : wr.cell? p = some v) (h' : wr.cell? q = some u) (hp : p.block < wr.heap.size) (hq : q.block < wr.heap.size) (hb : Below wr.heap.size wr w) :
    w.cell? p = some v ∧ w.cell? q = some u ∧ Below wr.heap.size wr w := ⟨(hb.cell hp).trans h, (hb.cell hq).trans h', hb⟩
theorem keep4 {wr w : World} {p q r s : Addr} {v u x y : Value} (h : wr.cell? p = some v) (h' : wr.cell? q = some u) (h2 : wr.cell? r = some x) (h3 : wr.cell? s = some y) (hp : p.block < wr.heap.size) (hq : q.block < wr.heap.size) (hr : r.block < wr.heap.size) (hs : s.block < wr.heap.size) (hb : Below wr.heap.size wr w) :
    w.cell? p = some v ∧ w.cell? q = some u ∧ w.cell? r = some x ∧ w.cell? s = some y ∧ Below wr.heap.size wr w :=
  ⟨(hb.cell hp).trans h, (hb.cell hq).trans h', (hb.cell hr).trans h2, (hb.cell hs).trans h3, hb⟩
set_option maxRecDepth 100000 in
set_option maxHeartbeats 3200000 in
theorem walk (w : World) (Ap : Option Addr) (np cp : Nat) (p : List Int) (hp : Reads w w.heap.size Ap np (i64s p)) (hmp : np ≤ maxLen) (hsp : Small p) (A P : Option Addr) (n c m d : Nat) (q J : List Int) (h1 : Reads w w.heap.size A n (i64s q)) (h2 : Reads w w.heap.size P m (i64s J)) (hn : n ≤ maxLen) (hm : m ≤ maxLen) (hq : Small q) (hJ : Small J) (R : Int)
    (S : Hid (∀ (w : World) (A0 : Option Addr) (n0 c0 B0 : Nat) (A P : Option Addr) (n c B m d B' : Nat), Arg w B0 A0 n0 c0 p → Arg w B A n c q → Arg w B' P m d J → Calls Try.prog 43 #[.slice A0 n0 c0, .agg #[.slice A n c, .slice P m d]] w (GivesN w R)))
    (I : Hid (∀ (w : World) (A0 : Option Addr) (n0 c0 B0 : Nat) (A P : Option Addr) (n c B m d B' : Nat), Arg w B0 A0 n0 c0 p → Arg w B A n c q → Arg w B' P m d J → Calls Try.prog 45 #[.slice A0 n0 c0, .agg #[.slice A n c, .slice P m d]] w (GivesN w R))) :
    Calls Try.prog 10 #[.slice Ap np cp, .agg #[.slice A n c, .slice P m d]] w fun e w' => e = .returned (.bool true) ∧ Below w.heap.size w w' := by
  have b1 := (Below.refl _ w).alloc (Nat.le_refl _) (.cells #[.slice A n c, .slice P m d] 49)
  have g1 := Whole.new w 49 #[.slice A n c, .slice P m d]
  have l1 := g1.lt
  have S1 := hide (sznear_any A P n c m d 1048576 (by omega) (w.alloc (.cells #[.slice A n c, .slice P m d] 49)) hn hm)
  unfold maxLen at hmp
  by_cases hnp : np ≤ 1048576
  rotate_left
  · have hbig : 1048576 < np := by omega
    clear S1 S I hp h1 h2 hsp hq hJ g1 l1
    go_enter Try.func10, Try.ntmps10
    go_wp2
    go_ret
    exact ⟨rfl, b1⟩
  by_cases hA : n + m ≤ 1048576
  rotate_left
  · have e1 : szN 1048576 n m = -1 := by unfold szN; rw [if_pos (by omega)]
    rw [e1] at S1
    clear e1 h1 h2 hp hsp hA hq hJ g1 l1 S I
    go_enter Try.func10, Try.ntmps10
    go_wp2_with fail
    refine (unhide S1).mono ?_
    rintro e w3 ⟨rfl, d⟩
    have hb := below_after b1 d
    clear S1 d b1
    go_wp2
    go_ret
    exact ⟨rfl, hb⟩
  obtain ⟨L, hL⟩ : ∃ L, szN 1048576 n m = L := ⟨_, rfl⟩
  have hL0 : ¬ L < 0 := by rw [← hL]; unfold szN; rw [if_neg (by omega)]; omega
  rw [hL] at S1
  have T1 := hide (fun (w' : World) (hb : Below w.heap.size w w') => tonear_any A P n c m d w.heap.size q J w' (h1.below hb) (h2.below hb) hb.size (by omega) (by omega))
  have T0 := hide (fun (w' : World) (hb : Below w.heap.size w w') => toi_any Ap np cp w.heap.size p w' (hp.below hb) hb.size (by omega))
  have hl0 : p.length = np := by have := hp.1; rwa [i64_length] at this
  have hl1 : q.length = n := by have := h1.1; rwa [i64_length] at this
  have hl2 : J.length = m := by have := h2.1; rwa [i64_length] at this
  have SP := hide (fun (w' : World) B0 A0 B A P c d (y : Ints w' B0 (.slice A0 np np) p) (x : NearAt w' B (.slice A q.length c) (.slice P J.length d) q J) => unhide S w' A0 np np _ A P q.length c _ J.length d _ (y.arg (by omega) (Nat.le_refl _) hsp) (x.p.arg (by omega) x.p.cap hq) (x.j.arg (by omega) x.j.cap hJ))
  have IM := hide (fun (w' : World) B0 A0 B A P c d (y : Ints w' B0 (.slice A0 np np) p) (x : NearAt w' B (.slice A q.length c) (.slice P J.length d) q J) => unhide I w' A0 np np _ A P q.length c _ J.length d _ (y.arg (by omega) (Nat.le_refl _) hsp) (x.p.arg (by omega) x.p.cap hq) (x.j.arg (by omega) x.j.cap hJ))
  have ED := hide (fun (w' : World) B B' A P c d A' P' c' d' (x : NearAt w' B (.slice A q.length c) (.slice P J.length d) q J) (y : NearAt w' B' (.slice A' q.length c') (.slice P' J.length d') q J) => eqnear_any A P A' P' q.length c J.length d q.length c' J.length d' B B' q J w' x y (by omega) (by omega))
  have E0 := hide (fun (w' : World) B B' A A' (x : Ints w' B (.slice A np np) p) (y : Ints w' B' (.slice A' np np) p) => eqi_any A A' np np np np _ _ p w' x.reads y.reads (by omega))
  clear S I hp hsp h1 h2 hq hJ hL hA hn hm hl0 hl1 hl2
  go_enter Try.func10, Try.ntmps10
  go_wp2_with fail
  refine (unhide S1).mono ?_
  rintro e w1 ⟨rfl, d⟩
  have hb := below_after b1 d
  have k1 := g1.below d l1
  clear S1 d b1 g1 l1
  have q0_k1 := k1.cell 0
  have q1_k1 := k1.cell 1
  have q2_k1 := k1.lt
  simp only [List.getElem?_toArray, List.getElem?_cons_zero, List.getElem?_cons_succ] at q0_k1 q1_k1
  have hb0 := Below.refl w1.heap.size w1
  have hbd : Below w.heap.size w w1.drew := hb.drew
  go_wp2
  go_region_held3 (fun w' => w'.cell? ⟨w.heap.size, 0, none⟩ = some (.slice A n c) ∧ w'.cell? ⟨w.heap.size, 1, none⟩ = some (.slice P m d) ∧ Below w1.heap.size w1 w') ((refine keep2 q0_k1 q1_k1 q2_k1 q2_k1 ?_; first | assumption | (apply Below.drew; assumption)))
    (first
      | (have hbd2 := hbd; clear hbd; go_simp; go_at_call 36; refine (unhide T0 _ hbd2).mono ?_; clear hbd2; rintro e w2 ⟨rfl, i2, x2⟩; have hb2 : Below w1.heap.size w1 w2 := (hb0.drew).trans x2; have hbw2 := below_after hb hb2)
      | (go_simp; go_at_call 44; refine (unhide T1 _ hbw2).mono ?_; rintro e w3 ⟨A3, c3, P3, d3, rfl, i3, x3⟩; have hb3 := below_after hb2 x3; have j2 := i2.below x3; have HS := hide (unhide SP w3 _ _ _ _ _ _ _ j2 i3))
      | (go_simp; go_at_call 43; refine (unhide HS).mono ?_; rintro e w4 ⟨rfl, x4⟩; have hb4 := below_after hb3 x4))
  clear i2 x2 hbw2 hb2 i3 x3 hb3 j2 HS x4 hb0 SP
  clear q0_k1 q1_k1 q2_k1
  have d := hb4
  clear hb4
  replace hb := below_after hb d
  replace k1 := k1.below d k1.lt
  clear d
  go_wp2_with fail
  refine (unhide T0 _ hb).mono ?_
  rintro e w5 ⟨rfl, i5, d⟩
  replace hb := below_after hb d
  replace k1 := k1.below d k1.lt
  clear d
  have q0_k1 := k1.cell 0
  have q1_k1 := k1.cell 1
  have q2_k1 := k1.lt
  simp only [List.getElem?_toArray, List.getElem?_cons_zero, List.getElem?_cons_succ] at q0_k1 q1_k1
  go_wp2_with fail
  refine (unhide T1 _ hb).mono ?_
  rintro e w6 ⟨A6, c6, P6, d6, rfl, i6, d⟩
  clear q0_k1 q1_k1 q2_k1
  replace i5 := i5.below d
  replace hb := below_after hb d
  replace k1 := k1.below d k1.lt
  clear d
  go_wp2_with fail
  obtain ⟨w7, hw⟩ : ∃ W : World, W = w6.alloc (.cells #[.slice A6 q.length c6, .slice P6 J.length d6] 52) := ⟨_, rfl⟩
  rw [← hw]
  have d : Below w6.heap.size w6 w7 := by rw [hw]; exact (Below.refl _ _).alloc (Nat.le_refl _) _
  have kx : Whole w7 w6.heap.size 52 #[.slice A6 q.length c6, .slice P6 J.length d6] := by rw [hw]; exact Whole.new _ _ _
  clear hw
  replace i5 := i5.below d
  replace i6 := i6.below d
  replace hb := below_after hb d
  replace k1 := k1.below d k1.lt
  clear d
  refine (unhide IM w7 _ _ _ _ _ _ _ i5 i6).mono ?_
  rintro e w8 ⟨rfl, d⟩
  replace i5 := i5.below d
  replace i6 := i6.below d
  replace kx := kx.below d kx.lt
  replace hb := below_after hb d
  replace k1 := k1.below d k1.lt
  clear d
  clear IM
  go_wp2_with fail
  refine (unhide T0 _ hb).mono ?_
  rintro e w9 ⟨rfl, i9, d⟩
  replace i5 := i5.below d
  replace i6 := i6.below d
  replace kx := kx.below d kx.lt
  replace hb := below_after hb d
  replace k1 := k1.below d k1.lt
  clear d
  go_wp2_with fail
  refine (unhide E0 w9 _ _ _ _ i5 i9).mono ?_
  rintro e w10 ⟨rfl, d0⟩
  have d := d0.below w9.heap.size
  clear d0 i5 i9 E0
  replace i6 := i6.below d
  replace kx := kx.below d kx.lt
  replace hb := below_after hb d
  replace k1 := k1.below d k1.lt
  clear d
  have q0_k1 := k1.cell 0
  have q1_k1 := k1.cell 1
  have q2_k1 := k1.lt
  simp only [List.getElem?_toArray, List.getElem?_cons_zero, List.getElem?_cons_succ] at q0_k1 q1_k1
  have q0_kx := kx.cell 0
  have q1_kx := kx.cell 1
  have q2_kx := kx.lt
  simp only [List.getElem?_toArray, List.getElem?_cons_zero, List.getElem?_cons_succ] at q0_kx q1_kx
  have hb0 := Below.refl w10.heap.size w10
  have hbd : Below w.heap.size w w10.drew := hb.drew
  go_wp2
  go_region_held3 (fun w' => w'.cell? ⟨w.heap.size, 0, none⟩ = some (.slice A n c) ∧ w'.cell? ⟨w.heap.size, 1, none⟩ = some (.slice P m d) ∧ w'.cell? ⟨w6.heap.size, 0, none⟩ = some (.slice A6 q.length c6) ∧ w'.cell? ⟨w6.heap.size, 1, none⟩ = some (.slice P6 J.length d6) ∧ Below w10.heap.size w10 w') ((refine keep4 q0_k1 q1_k1 q0_kx q1_kx q2_k1 q2_k1 q2_kx q2_kx ?_; first | assumption | (apply Below.drew; assumption)))
    (first
      | (have hbd2 := hbd; clear hbd; go_simp; go_at_call 44; refine (unhide T1 _ hbd2).mono ?_; clear hbd2; rintro e w11 ⟨A7, c7, P7, d7, rfl, i7, x7⟩; have hb3 : Below w10.heap.size w10 w11 := (hb0.drew).trans x7; have j4 := i6.below hb3; have HS := hide (unhide ED w11 _ _ _ _ _ _ _ _ _ _ j4 i7))
      | (go_simp; go_at_call 46; refine (unhide HS).mono ?_; rintro e w12 ⟨rfl, x5⟩; have hb5 := below_after hb3 x5))
  clear i7 x7 hb3 j4 HS x5 hb0
  clear q0_k1 q1_k1 q2_k1
  clear q0_kx q1_kx q2_kx
  replace hb := below_after hb hb5
  clear hb5 ED T0 T1 kx i6 k1
  go_wp2
  go_ret
  exact ⟨rfl, hb⟩

theorem params_ok : ∀ t ∈ (#[24, 49] : Array TypeId).toList, Try.prog.readableRec t = true ∧ t < Try.prog.types.size := by
  intro t ht
  simp only [List.mem_cons, List.not_mem_nil, or_false] at ht
  rcases ht with rfl | rfl
  all_goals exact ⟨by kernel_rfl, of_decide_eq_true (by kernel_rfl)⟩

set_option maxRecDepth 100000 in
/-- WHAT THE WALK GIVES, FOR EVERY ARGUMENT. -/
theorem contract (H : Type) (enc : TypeId × Value → H) (W : World) (base : Nat) (args : Array Value) (ds gs : List (DataW H)) (before : List MemPlace)
    (hval : ∀ (j : Nat) t v, Try.f10.params[j]? = some t → args[j]? = some v → Value.okWide Try.prog W .any base t v)
    (hW : DataW.Whole enc Try.prog Try.f10.params.toList Rows.fnExactCountNearSpec.vars false W args.toList ds gs before) :
    Calls Try.prog 10 args W fun e W' => ∃ v, e = .returned v ∧ Rows.fnExactCountNearSpec.post enc Try.prog Try.f10 false true false false W args v W' := by
  have hW' := hW
  obtain ⟨p, q, hA0, hV, rfl, hfz, hnd⟩ := hW
  have hA : DataW.TrodAll enc Try.prog W 0 (fun _ => true) true Try.f10.params.toList args.toList ds p := hA0
  rw [Try.params10] at hA hval
  obtain ⟨v0, v1, d0, d1, p0, p1, rfl, rfl, rfl, h0, h1⟩ := trodAll_two hA
  obtain ⟨rfl, rfl⟩ := trodVars_none hV
  obtain ⟨f01, f11, y01, y11, k1, rfl, rfl, hpl1, t01, t11⟩ := Go.Joins.open_agg2 Try.underlying49 (by kernel_rfl) (by kernel_rfl) (hval 1 49 v1 rfl rfl) h1
  obtain ⟨Ax, nx, cx, x, rfl, hrx, hnx, smx⟩ := open_ints_cell Try.underlying24 Try.underlying3 cellsInt t01 (fun x hx => by simpa using hW'.lt x (by simp [hpl1, hx]))
  obtain ⟨Px, mx, dx, xx, rfl, hqx, hmx, snx⟩ := open_ints_cell Try.underlying24 Try.underlying3 cellsInt t11 (fun x hx => by simpa using hW'.lt x (by simp [hpl1, hx]))
  obtain ⟨Ap, np, cp, p, rfl, hrp, hnp, wfp⟩ := open_ints_reads Try.underlying24 Try.underlying3 cellsInt (hval 0 24 v0 rfl rfl) h0 (fun x hx => by simpa using hW'.lt x (by simp [hx]))
  have hsp : Small p := small_of_wf wfp
  refine (walk W Ap np cp p hrp hnp hsp Ax Px nx cx mx dx x xx hrx hqx hnx hmx smx snx (numNear p x xx) (hide (fun w A0 n0 c0 B0 A P n c B m d B2 h0 h1 h2 => scntn_any A0 A P n0 c0 B0 n c B m d B2 p x xx w h0 h1 h2)) (hide (fun w A0 n0 c0 B0 A P n c B m d B2 h0 h1 h2 => icntn_any A0 A P n0 c0 B0 n c B m d B2 p x xx w h0 h1 h2))).mono fun e W' ⟨he, hb⟩ => ?_
  subst he
  exact ⟨_, rfl, law_end laidOut (by rw [Try.params10]; exact params_ok) Try.underlying4 rfl rfl hW' rfl hb⟩

set_option maxRecDepth 100000 in
theorem lifted (os : Os) (started : os.Started) (H : Type) (enc : TypeId × Value → H) :
    ReturnsInHanded {} Try.checked os 10 .any (Rows.fnExactCountNearSpec.pre6 enc Try.prog Try.f10 Rows.fnExactCountNearRow.domain false) (Rows.fnExactCountNearSpec.post enc Try.prog Try.f10 false true false false) := by
  refine returnsInHanded_of_change (C := Try.checked) own started (by kernel_rfl) Try.func10
    (ChangeSpec.witness6 (enc := enc) (C := Try.checked) false ⟨#[], #[.slice none 0 0, .agg #[.slice none 0 0, .slice none 0 0]], []⟩ 8 (by kernel_rfl) (by kernel_rfl) (by kernel_rfl) (by kernel_rfl)) ?_
  intro W base args ds gs before hval hW _ _
  exact contract H enc W base args ds gs before hval hW

theorem proved : Rows.FnExactCountNearSaid :=
  OpenClaim.holds_of_wide 10 Try.f10 rfl rfl rfl rfl rfl rfl rfl ⟨rfl, rfl, rfl, rfl, rfl⟩ rfl rfl rfl rfl rfl (by kernel_rfl) Try.func10 (by kernel_rfl)
    (of_decide_eq_true (by kernel_rfl)) (by unfold Func.isWrapper; first | (rw [if_pos (by decide +kernel)]; kernel_rfl) | (rw [if_neg (by decide +kernel)]; exact ⟨rfl, rfl⟩))
    (fun os started H enc _ => lifted os started H enc)
end Go.Proofs.Ytichenjbkclljaa.fnExactCountNear
