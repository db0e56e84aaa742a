/-
  For every two lists of lists of integers and every integer the law FnExactUnionUpTo answers true and leaves its arguments as they were.
  Conditions: none beyond the row's own (what is read lies within the row's reach).
-/
import Derived.Test.YtoiipedomgefaaaGreatDoorB8
import Derived.Test.YtoiipedomgefaaaGreatDoorB12
import Derived.Test.YtoiipedomgefaaaGreatDoorB10
import Derived.Test.YtoiipedomgefaaaGreatDoorB13
import Derived.Test.YtoiipedomgefaaaGreatDoorB2







namespace Go.Proofs.YtoiipedomgefaaaGreatDoor.fnExactUnionUpTo
set_option maxRecDepth 100000
open Go.ChangeShapes Go.WideShapes Go.ChangeAt Go.RowKit

set_option maxRecDepth 100000 in
set_option maxHeartbeats 1600000 in
theorem walk (w : World) (Ap : Option Addr) (np cp : Nat) (p : List (List Int)) (hrp : ReadsS w w.heap.size Ap np p) (hmp : np ≤ maxLen) (hsp : ∀ z ∈ p, z.length ≤ maxLen ∧ Small z) (Aq : Option Addr) (nq cq : Nat) (q : List (List Int)) (hrq : ReadsS w w.heap.size Aq nq q) (hmq : nq ≤ maxLen) (hsq : ∀ z ∈ q, z.length ≤ maxLen ∧ Small z) (m : Int) (_hm : -9223372036854775808 ≤ m ∧ m ≤ 9223372036854775807) (R : List (List Int)) (hR : p.length + tot p ≤ 1048576 → q.length + tot q ≤ 1048576 → R.length ≤ 1048576 ∧ tot R ≤ 1048576)
    (S : Hid (p.length + tot p ≤ 1048576 → q.length + tot q ≤ 1048576 → ∀ (w : World) (A0 : Option Addr) (n0 c0 B0 : Nat) (A1 : Option Addr) (n1 c1 B1 : Nat), IntsS w B0 (.slice A0 n0 c0) p → IntsS w B1 (.slice A1 n1 c1) q → Calls Tryz.prog 20 #[.slice A0 n0 c0, .slice A1 n1 c1, .int .i64 m] w (GivesSS w R)))
    (I : Hid (p.length + tot p ≤ 1048576 → q.length + tot q ≤ 1048576 → ∀ (w9 : World) (_ : Below w.heap.size w w9) (A0 : Option Addr) (n0 c0 B0 : Nat) (A1 : Option Addr) (n1 c1 B1 : Nat), IntsS w9 B0 (.slice A0 n0 c0) p → IntsS w9 B1 (.slice A1 n1 c1) q → Calls Tryz.prog 10 #[.slice A0 n0 c0, .slice A1 n1 c1, .int .i64 m] w9 (GivesSS w9 R))) :
    Calls Tryz.prog 4 #[.slice Ap np cp, .slice Aq nq cq, .int .i64 m] w fun e w' => e = .returned (.bool true) ∧ Below w.heap.size w w' := by
  by_cases hnp : np + tot p ≤ 1048576
  rotate_left
  · clear S I
    have hzp : szR (1048576) np p = -1 := by unfold szR; rw [if_pos (by omega)]
    have hb : Below w.heap.size w w := Below.refl _ _
    go_enter Tryz.func4, Tryz.ntmps4
    go_wp2_with fail
    refine (sziss_any Ap np cp _ p (1048576) (by omega) w hrp hmp (fun z hz => (hsp z hz).1)).mono ?_
    rintro e wx ⟨rfl, rfl⟩
    rw [hzp]
    go_wp2
    go_ret
    exact ⟨rfl, hb⟩
  obtain ⟨r_p, hzp, hl0p, hl1p, hlnp⟩ : ∃ r, szR (1048576) np p = r ∧ 0 ≤ r ∧ r ≤ 1048576 ∧ ¬ r < 0 := ⟨_, rfl, by unfold szR; rw [if_neg (by omega)]; omega, by unfold szR; rw [if_neg (by omega)]; omega, by unfold szR; rw [if_neg (by omega)]; omega⟩
  by_cases hnq : nq + tot q ≤ (r_p).toNat
  rotate_left
  · clear S I
    have hzq : szR (r_p) nq q = -1 := by unfold szR; rw [if_pos (by omega)]
    have hb : Below w.heap.size w w := Below.refl _ _
    go_enter Tryz.func4, Tryz.ntmps4
    go_wp2_with fail
    refine (sziss_any Ap np cp _ p (1048576) (by omega) w hrp hmp (fun z hz => (hsp z hz).1)).mono ?_
    rintro e wx ⟨rfl, rfl⟩
    rw [hzp]
    go_wp2_with fail
    refine (sziss_any Aq nq cq _ q (r_p) (by omega) w hrq hmq (fun z hz => (hsq z hz).1)).mono ?_
    rintro e wx ⟨rfl, rfl⟩
    rw [hzq]
    go_wp2
    go_ret
    exact ⟨rfl, hb⟩
  obtain ⟨r_q, hzq, hl0q, hl1q, hlnq⟩ : ∃ r, szR (r_p) nq q = r ∧ 0 ≤ r ∧ r ≤ 1048576 ∧ ¬ r < 0 := ⟨_, rfl, by unfold szR; rw [if_neg (by omega)]; omega, by unfold szR; rw [if_neg (by omega)]; omega, by unfold szR; rw [if_neg (by omega)]; omega⟩
  replace hR := hR (by have := hrp.len; omega) (by have := hrq.len; omega)
  obtain ⟨hR, hT⟩ := hR
  have hb : Below w.heap.size w w := Below.refl _ _
  go_enter Tryz.func4, Tryz.ntmps4
  go_wp2_with fail
  refine (sziss_any Ap np cp _ p (1048576) (by omega) w hrp hmp (fun z hz => (hsp z hz).1)).mono ?_
  rintro e wx ⟨rfl, rfl⟩
  rw [hzp]
  go_wp2_with fail
  refine (sziss_any Aq nq cq _ q (r_p) (by omega) w hrq hmq (fun z hz => (hsq z hz).1)).mono ?_
  rintro e wx ⟨rfl, rfl⟩
  rw [hzq]
  go_wp2_with fail
  refine (toiss_any Ap np cp _ p _ (hrp.below hb) hb.size (by omega) (fun z hz => (small_of_tot (by have := hrp.len; omega) hsp z hz).1)).mono ?_
  rintro e w1 ⟨g_tp, rfl, o_tp, d⟩
  have z1 := d.size
  replace hb := below_after hb d
  clear d
  replace o_tp := o_tp.sealed
  go_wp2_with fail
  refine (toiss_any Aq nq cq _ q _ (hrq.below hb) hb.size (by omega) (fun z hz => (small_of_tot (by have := hrq.len; omega) hsq z hz).1)).mono ?_
  rintro e w2 ⟨g_tq, rfl, o_tq, d⟩
  have z2 := d.size
  replace o_tp := o_tp.below d
  replace hb := below_after hb d
  clear d
  replace o_tq := o_tq.sealed
  go_wp2_with fail
  refine (unhide S (by have := hrp.len; omega) (by have := hrq.len; omega) _ _ _ _ _ _ _ _ _ (o_tp.opened) (o_tq.opened)).mono ?_
  rintro e w3 ⟨A_w, c_w, rfl, o_w, d⟩
  have z3 := d.size
  replace o_tp := o_tp.below d
  replace o_tq := o_tq.below d
  replace hb := below_after hb d
  clear d
  replace o_w := o_w.sealed
  clear o_tp
  clear o_tq
  go_wp2_with fail
  refine (toiss_any Ap np cp _ p _ (hrp.below hb) hb.size (by omega) (fun z hz => (small_of_tot (by have := hrp.len; omega) hsp z hz).1)).mono ?_
  rintro e w4 ⟨g_xp, rfl, o_xp, d⟩
  have z4 := d.size
  replace o_w := o_w.below d
  replace hb := below_after hb d
  clear d
  replace o_xp := o_xp.sealed
  go_wp2_with fail
  refine (toiss_any Aq nq cq _ q _ (hrq.below hb) hb.size (by omega) (fun z hz => (small_of_tot (by have := hrq.len; omega) hsq z hz).1)).mono ?_
  rintro e w5 ⟨g_xq, rfl, o_xq, d⟩
  have z5 := d.size
  replace o_w := o_w.below d
  replace o_xp := o_xp.below d
  replace hb := below_after hb d
  clear d
  replace o_xq := o_xq.sealed
  go_wp2_with fail
  refine (unhide I (by have := hrp.len; omega) (by have := hrq.len; omega) _ hb _ _ _ _ _ _ _ _ (o_xp.opened) (o_xq.opened)).mono ?_
  rintro e w6 ⟨A_g, c_g, rfl, o_g, d⟩
  have z6 := d.size
  replace o_w := o_w.below d
  replace o_xp := o_xp.below d
  replace o_xq := o_xq.below d
  replace hb := below_after hb d
  clear d
  replace o_g := o_g.sealed
  go_wp2_with fail
  refine (eqss_any _ _ _ _ _ _ _ _ _ _ o_g.opened o_w.opened (by omega) (by omega)).mono ?_
  rintro e w7 ⟨rfl, d0⟩
  have d := d0.below w6.heap.size
  clear d0
  have z7 := d.size
  replace o_w := o_w.below d
  replace o_xp := o_xp.below d
  replace o_xq := o_xq.below d
  replace o_g := o_g.below d
  replace hb := below_after hb d
  clear d
  go_wp2_with fail
  refine (toiss_any Ap np cp _ p _ (hrp.below hb) hb.size (by omega) (fun z hz => (small_of_tot (by have := hrp.len; omega) hsp z hz).1)).mono ?_
  rintro e w8 ⟨g_yp, rfl, o_yp, d⟩
  have z8 := d.size
  replace o_w := o_w.below d
  replace o_xp := o_xp.below d
  replace o_xq := o_xq.below d
  replace o_g := o_g.below d
  replace hb := below_after hb d
  clear d
  replace o_yp := o_yp.sealed
  go_wp2_with fail
  refine (eqss_any _ _ _ _ _ _ _ _ _ _ o_xp.opened o_yp.opened (by omega) (by omega)).mono ?_
  rintro e w9 ⟨rfl, d0⟩
  have d := d0.below w8.heap.size
  clear d0
  have z9 := d.size
  replace o_w := o_w.below d
  replace o_xp := o_xp.below d
  replace o_xq := o_xq.below d
  replace o_g := o_g.below d
  replace o_yp := o_yp.below d
  replace hb := below_after hb d
  clear d
  clear o_yp
  go_wp2_with fail
  refine (toiss_any Aq nq cq _ q _ (hrq.below hb) hb.size (by omega) (fun z hz => (small_of_tot (by have := hrq.len; omega) hsq z hz).1)).mono ?_
  rintro e w10 ⟨g_yq, rfl, o_yq, d⟩
  have z10 := d.size
  replace o_w := o_w.below d
  replace o_xp := o_xp.below d
  replace o_xq := o_xq.below d
  replace o_g := o_g.below d
  replace hb := below_after hb d
  clear d
  replace o_yq := o_yq.sealed
  go_wp2_with fail
  refine (eqss_any _ _ _ _ _ _ _ _ _ _ o_xq.opened o_yq.opened (by omega) (by omega)).mono ?_
  rintro e w11 ⟨rfl, d0⟩
  have d := d0.below w10.heap.size
  clear d0
  have z11 := d.size
  replace o_w := o_w.below d
  replace o_xp := o_xp.below d
  replace o_xq := o_xq.below d
  replace o_g := o_g.below d
  replace o_yq := o_yq.below d
  replace hb := below_after hb d
  clear d
  clear o_yq
  go_wp2_with fail
  refine (markss_in _ _ _ _ _ 1 _ (by omega) _ _ o_xp (by omega) (by omega)).mono ?_
  rintro e w12 ⟨rfl, m_x, d⟩
  clear o_xp
  have o_xp := m_x
  clear m_x
  have z12 := d.size
  replace o_w := o_w.turnLow d (by omega)
  replace o_xq := o_xq.turnHigh d (by omega)
  replace o_g := o_g.turnHigh d (by omega)
  replace hb := hb.trans ((d.below (by omega)).mono (by omega))
  clear d
  go_wp2_with fail
  refine (markss_in _ _ _ _ _ (1 + tot p) _ (by omega) _ _ o_xq (by omega) (by omega)).mono ?_
  rintro e w13 ⟨rfl, m_x, d⟩
  clear o_xq
  have o_xq := m_x
  clear m_x
  have z13 := d.size
  replace o_w := o_w.turnLow d (by omega)
  replace o_xp := o_xp.turnLow d (by omega)
  replace o_g := o_g.turnHigh d (by omega)
  replace hb := hb.trans ((d.below (by omega)).mono (by omega))
  clear d
  clear o_xp
  clear o_xq
  go_wp2_with fail
  refine (eqss_any _ _ _ _ _ _ _ _ _ _ o_g.opened o_w.opened (by omega) (by omega)).mono ?_
  rintro e w14 ⟨rfl, d0⟩
  have d := d0.below w13.heap.size
  clear d0
  have z14 := d.size
  replace o_w := o_w.below d
  replace o_g := o_g.below d
  replace hb := below_after hb d
  clear d
  go_wp2_with fail
  refine (markss_in _ _ _ _ _ 1 _ (by omega) _ _ o_g (by omega) (by omega)).mono ?_
  rintro e w15 ⟨rfl, m_x, d⟩
  clear o_g
  have o_g := m_x
  clear m_x
  have z15 := d.size
  replace o_w := o_w.turnLow d (by omega)
  replace hb := hb.trans ((d.below (by omega)).mono (by omega))
  clear d
  go_wp2_with fail
  refine (heldss_any _ _ _ _ 1 _ (by omega) _ _ o_g.opened (by omega) (by omega)).mono ?_
  rintro e wx ⟨rfl, rfl⟩
  go_wp2_with fail
  refine (toiss_any Ap np cp _ p _ (hrp.below hb) hb.size (by omega) (fun z hz => (small_of_tot (by have := hrp.len; omega) hsp z hz).1)).mono ?_
  rintro e w16 ⟨g_tp, rfl, o_tp, d⟩
  have z16 := d.size
  replace o_w := o_w.below d
  replace o_g := o_g.below d
  replace hb := below_after hb d
  clear d
  replace o_tp := o_tp.sealed
  go_wp2_with fail
  refine (toiss_any Aq nq cq _ q _ (hrq.below hb) hb.size (by omega) (fun z hz => (small_of_tot (by have := hrq.len; omega) hsq z hz).1)).mono ?_
  rintro e w17 ⟨g_tq, rfl, o_tq, d⟩
  have z17 := d.size
  replace o_w := o_w.below d
  replace o_g := o_g.below d
  replace o_tp := o_tp.below d
  replace hb := below_after hb d
  clear d
  replace o_tq := o_tq.sealed
  go_wp2_with fail
  refine (unhide I (by have := hrp.len; omega) (by have := hrq.len; omega) _ hb _ _ _ _ _ _ _ _ (o_tp.opened) (o_tq.opened)).mono ?_
  rintro e w18 ⟨A_h, c_h, rfl, o_h, d⟩
  have z18 := d.size
  replace o_w := o_w.below d
  replace o_g := o_g.below d
  replace o_tp := o_tp.below d
  replace o_tq := o_tq.below d
  replace hb := below_after hb d
  clear d
  replace o_h := o_h.sealed
  go_wp2_with fail
  refine (eqss_any _ _ _ _ _ _ _ _ _ _ o_h.opened o_w.opened (by omega) (by omega)).mono ?_
  rintro e w19 ⟨rfl, d0⟩
  have d := d0.below w18.heap.size
  clear d0
  have z19 := d.size
  replace o_w := o_w.below d
  replace o_g := o_g.below d
  replace o_tp := o_tp.below d
  replace o_tq := o_tq.below d
  replace o_h := o_h.below d
  replace hb := below_after hb d
  clear d
  go_wp2_with fail
  refine (heldss_any _ _ _ _ 1 _ (by omega) _ _ o_g.opened (by omega) (by omega)).mono ?_
  rintro e wx ⟨rfl, rfl⟩
  go_wp2
  go_ret
  exact ⟨rfl, hb⟩

theorem params_ok : ∀ t ∈ (#[24, 24, 3] : Array TypeId).toList, Tryz.prog.readableRec t = true ∧ t < Tryz.prog.types.size := by
  intro t ht
  simp only [List.mem_cons, List.not_mem_nil, or_false] at ht
  rcases ht with rfl | rfl | rfl
  all_goals exact ⟨by kernel_rfl, of_decide_eq_true (by kernel_rfl)⟩

set_option maxRecDepth 100000 in
/-- WHAT THE WALK GIVES, FOR EVERY ARGUMENT. -/
theorem contract (H : Type) (enc : TypeId × Value → H) (W : World) (base : Nat) (args : Array Value) (ds gs : List (DataW H)) (before : List MemPlace)
    (hval : ∀ (j : Nat) t v, Tryz.f4.params[j]? = some t → args[j]? = some v → Value.okWide Tryz.prog W .any base t v)
    (hW : DataW.Whole enc Tryz.prog Tryz.f4.params.toList Rows.fnExactUnionUpToSpec.vars false W args.toList ds gs before) (hL : laidMetH Tryz.prog Rows.fnExactUnionUpToRow.laid W) :
    Calls Tryz.prog 4 args W fun e W' => ∃ v, e = .returned v ∧ Rows.fnExactUnionUpToSpec.post enc Tryz.prog Tryz.f4 false true false false W args v W' := by
  have hW' := hW
  obtain ⟨p, q, hA0, hV, rfl, hfz, hnd⟩ := hW
  have hA : DataW.TrodAll enc Tryz.prog W 0 (fun _ => true) true Tryz.f4.params.toList args.toList ds p := hA0
  rw [Tryz.params4] at hA hval
  obtain ⟨v0, vs0, d0, ds0, p0, q0, ha0, rfl, rfl, h0, r0⟩ := trodAll_cons hA
  obtain ⟨v1, vs1, d1, ds1, p1, q1, ha1, rfl, rfl, h1, r1⟩ := trodAll_cons r0
  obtain ⟨v2, vs2, d2, ds2, p2, q2, ha2, rfl, rfl, h2, r2⟩ := trodAll_cons r1
  obtain ⟨hz, rfl, rfl⟩ := trodAll_nil r2
  obtain rfl : args = #[v0, v1, v2] := by cases args; simp_all
  have hL' : laidMet Tryz.prog Rows.fnExactUnionUpToRow.laid W := hL
  obtain ⟨a0, hv0, hE⟩ := err_of_laid hL'
  have hV1 : DataW.TrodVars enc Tryz.prog W (fun _ => true) ["loop.example/g03101/impl.errNoBasis"] gs q := hV
  obtain ⟨rfl, rfl⟩ := hV1.unique (vars_read1 enc gErr gErrType Tryz.underlying53 hv0 trivial _)
  obtain ⟨m, rfl, rfl, rfl, wm⟩ := open_int Tryz.underlying3 (hval 2 3 v2 rfl rfl) h2
  have hm : -9223372036854775808 ≤ m ∧ m ≤ 9223372036854775807 := by simpa [Lit.wf, IntKind.min, IntKind.max, IntKind.signed, IntKind.bits] using wm
  obtain ⟨Aq, nq, cq, q, rfl, hrq, hnq, hsq⟩ := open_intss_reads Tryz.underlying24 Tryz.underlying36 Tryz.underlying3 cellsRow cellsInt (hval 1 24 v1 rfl rfl) h1 (fun x hx => by simpa using hW'.lt x (by simp [hx]))
  obtain ⟨Ap, np, cp, p, rfl, hrp, hnp, hsp⟩ := open_intss_reads Tryz.underlying24 Tryz.underlying36 Tryz.underlying3 cellsRow cellsInt (hval 0 24 v0 rfl rfl) h0 (fun x hx => by simpa using hW'.lt x (by simp [hx]))
  refine (walk W Ap np cp p hrp hnp hsp Aq nq cq q hrq hnq hsq m hm (uniR p q m) (fun _ _ => ⟨by have := (uniR_rows p q m).1; omega, by have := (uniR_rows p q m).2.1; omega⟩) (hide (fun hp hq w A n c B A' n' c' B' h h' => suni_any A A' n c B n' c' B' p q m hm w h h' (by have := h.len; omega) (by have := h'.len; omega) (small_of_tot hp hsp) (small_of_tot hq hsq))) (hide (fun hp hq w hb A n c B A' n' c' B' h h' => iuni_any A A' n c B n' c' B' p q m hm w h h' (by have := h.len; omega) (by have := h'.len; omega) (small_of_tot hp hsp) (small_of_tot hq hsq) a0 (hE.below hb)))).mono fun e W' ⟨he, hb⟩ => ?_
  subst he
  exact ⟨_, rfl, law_endE laidOut (by rw [Tryz.params4]; exact params_ok) Tryz.underlying4 rfl rfl hW' gErr gErrType Tryz.underlying53 hv0 trivial rfl hb⟩

set_option maxRecDepth 100000 in
theorem laid_met (os : Os) : laidMet Tryz.prog Rows.fnExactUnionUpToRow.laid ((laidWorldE os).forCall (fun _ _ => 0) ⟨#[], #[.slice none 0 0, .slice none 0 0, .int .i64 0], []⟩).memory :=
  laidMet_of_run' 8 (by kernel_rfl) (by kernel_rfl)
set_option maxRecDepth 100000 in
theorem reads (os : Os) {H : Type} (enc : TypeId × Value → H) : ∃ gs places, DataW.whole enc Tryz.prog ((laidWorldE os).forCall (fun _ _ => 0) ⟨#[], #[.slice none 0 0, .slice none 0 0, .int .i64 0], []⟩).memory Tryz.f4.params.toList Rows.fnExactUnionUpToSpec.vars false #[Value.slice none 0 0, .slice none 0 0, .int .i64 0].toList 8 = some ([.nil, .nil, .lit (.int .i64 0)], gs, places) :=
  ⟨[tok enc (.iface 155 (.pointer (some ⟨low, 0, none⟩)))], [.cell 0 0], by kernel_rfl⟩

set_option maxRecDepth 100000 in
theorem lifted (os : Os) (started : os.Started) (H : Type) (enc : TypeId × Value → H) (F : Stop.Interp) :
    ReturnsInHanded {} Tryz.checked os 4 .any ((OpenSpec.ofChange Rows.fnExactUnionUpToSpec).preRow enc Tryz.prog Tryz.f4 Rows.fnExactUnionUpToRow.domain false Rows.fnExactUnionUpToRow.laid) (((OpenSpec.ofChange Rows.fnExactUnionUpToSpec).at F).post enc Tryz.prog Tryz.f4 false true false false) := by
  obtain ⟨gs, places, hx⟩ := reads os enc
  refine returnsInHanded_of_row (C := Tryz.checked) (s := OpenSpec.ofChange Rows.fnExactUnionUpToSpec) own started (by kernel_rfl) Tryz.func4
    (witness_row_at (enc := enc) (C := Tryz.checked) false (laidWorldE os) #[.slice none 0 0, .slice none 0 0, .int .i64 0] rfl (by kernel_rfl) (by kernel_rfl) (by kernel_rfl)
      (OpenSpec.preRow_of_cond 8 hx (by kernel_rfl) (fun k hk => by cases hk) (by kernel_rfl) (laid_met os))) ?_
  intro W base args ds gs before hval hW _ _ _ hL _ _
  exact contract H enc W base args ds gs before hval hW hL

theorem said : Rows.FnExactUnionUpToSaid :=
  OpenClaim.holds_of_cond 4 Tryz.f4 rfl rfl rfl rfl rfl rfl rfl ⟨rfl, rfl, rfl, rfl, rfl⟩ rfl rfl rfl rfl rfl (by kernel_rfl) Tryz.func4 (by kernel_rfl)
    (of_decide_eq_true (by kernel_rfl)) (by unfold Func.isWrapper; first | (rw [if_pos (by decide +kernel)]; kernel_rfl) | (rw [if_neg (by decide +kernel)]; exact ⟨rfl, rfl⟩))
    (fun os started H enc _ F => by rw [OpenClaim.pre_eq_preRow]; exact lifted os started H enc F)

theorem plain (f : FuncId) (fn : Func) (hf : Tryz.pinned.checked.prog.funcNamed "loop.example/g03101/laws.FnExactUnionUpTo" = some f) (hfn : Tryz.pinned.checked.prog.funcs[f]? = some fn) :
    true = Tryz.pinned.checked.prog.looks [] ∧ ∀ (j : Nat) t, fn.params[j]? = some t → Tryz.pinned.checked.prog.wantsStandIn t = false := by
  obtain rfl : f = 4 := Option.some.inj ((show Tryz.prog.funcNamed "loop.example/g03101/laws.FnExactUnionUpTo" = some 4 by kernel_rfl).symm.trans hf) |>.symm
  obtain rfl : fn = Tryz.f4 := (Option.some.inj (Tryz.func4.symm.trans hfn)).symm
  refine ⟨by kernel_rfl, fun j t ht => ?_⟩
  rw [Tryz.params4] at ht
  have hm := Array.mem_of_getElem? ht
  simp only [List.mem_toArray, List.mem_cons, List.not_mem_nil, or_false] at hm
  rcases hm with rfl | rfl | rfl
  all_goals exact (show Tryz.prog.wantsStandIn _ = false by kernel_rfl)

theorem card : Rows.FnExactUnionUpToCardSaid :=
  Claim7.holds_tied_plain_at .later [] _ _ _ _ said (fun _ h => by cases h) (by kernel_rfl) (fun _ h => by cases h) fnExactUnionUpTo_row_tie rfl ⟨rfl, rfl⟩ (by kernel_rfl) rfl plain (by kernel_rfl)
end Go.Proofs.YtoiipedomgefaaaGreatDoor.fnExactUnionUpTo
