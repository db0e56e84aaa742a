/-
  For any two lists of integers the law FnExactOccurrencesOf answers true and leaves its arguments as they were.
  Conditions: none beyond the row's own (what is read lies within the row's reach).
-/
import Derived.Test.YtichenjbkclljaaB6
import Derived.Test.YtichenjbkclljaaB5
import Derived.Test.YtichenjbkclljaaB7
import Derived.Test.YtichenjbkclljaaB2









namespace Go.Proofs.Ytichenjbkclljaa.fnExactOccurrencesOf
set_option maxRecDepth 100000
open Go.ChangeShapes Go.WideShapes Go.ChangeAt Go.RowKit

set_option maxRecDepth 100000 in
set_option maxHeartbeats 1600000 in
theorem walk (w : World) (Ap : Option Addr) (np cp : Nat) (p : List Int) (hrp : Reads w w.heap.size Ap np (i64s p)) (hmp : np ≤ maxLen) (hsp : Small p) (Aq : Option Addr) (nq cq : Nat) (q : List Int) (hrq : Reads w w.heap.size Aq nq (i64s q)) (hmq : nq ≤ maxLen) (hsq : Small q) (R : List (List Int)) (hR : R.length ≤ 1048576) (hT : tot R ≤ 1048576)
    (S : Hid ( ∀ (w : World) (A0 : Option Addr) (n0 c0 B0 : Nat) (A1 : Option Addr) (n1 c1 B1 : Nat), Arg w B0 A0 n0 c0 p → Arg w B1 A1 n1 c1 q → Calls Try.prog 21 #[.slice A0 n0 c0, .slice A1 n1 c1] w (GivesSS w R)))
    (I : Hid ( ∀ (w : World) (A0 : Option Addr) (n0 c0 B0 : Nat) (A1 : Option Addr) (n1 c1 B1 : Nat), Arg w B0 A0 n0 c0 p → Arg w B1 A1 n1 c1 q → Calls Try.prog 13 #[.slice A0 n0 c0, .slice A1 n1 c1] w (GivesSS w R))) :
    Calls Try.prog 5 #[.slice Ap np cp, .slice Aq nq cq] w fun e w' => e = .returned (.bool true) ∧ Below w.heap.size w w' := by
  unfold maxLen at hmp
  by_cases hnp : np ≤ 1048576
  rotate_left
  · have hbig : 1048576 < np := by omega
    clear S I
    go_enter Try.func5, Try.ntmps5
    go_wp2
    go_ret
    exact ⟨rfl, Below.refl _ _⟩
  unfold maxLen at hmq
  by_cases hnq : nq ≤ 1048576
  rotate_left
  · have hbig : 1048576 < nq := by omega
    clear S I
    go_enter Try.func5, Try.ntmps5
    go_wp2
    go_ret
    exact ⟨rfl, Below.refl _ _⟩
  have hb : Below w.heap.size w w := Below.refl _ _
  go_enter Try.func5, Try.ntmps5
  go_wp2_with fail
  refine (toi_any Ap np cp _ p _ (hrp.below hb) hb.size (by omega)).mono ?_
  rintro e w1 ⟨rfl, o_tp, d⟩
  have z1 := d.size
  replace hb := below_after hb d
  clear d
  have s_tp := o_tp.since
  have u_tp := o_tp.until_
  go_wp2_with fail
  refine (toi_any Aq nq cq _ q _ (hrq.below hb) hb.size (by omega)).mono ?_
  rintro e w2 ⟨rfl, o_tq, d⟩
  have z2 := d.size
  replace o_tp := o_tp.below d
  replace hb := below_after hb d
  clear d
  have s_tq := o_tq.since
  have u_tq := o_tq.until_
  go_wp2_with fail
  refine (unhide S  _ _ _ _ _ _ _ _ _ (o_tp.arg hnp (Nat.le_refl _) hsp) (o_tq.arg hnq (Nat.le_refl _) hsq)).mono ?_
  rintro e w3 ⟨A_w, c_w, rfl, o_w, d⟩
  have z3 := d.size
  replace o_tp := o_tp.below d
  replace o_tq := o_tq.below d
  replace hb := below_after hb d
  clear d
  replace o_w := o_w.sealed
  clear o_tp s_tp u_tp
  clear o_tq s_tq u_tq
  go_wp2_with fail
  refine (toi_any Ap np cp _ p _ (hrp.below hb) hb.size (by omega)).mono ?_
  rintro e w4 ⟨rfl, o_xp, d⟩
  have z4 := d.size
  replace o_w := o_w.below d
  replace hb := below_after hb d
  clear d
  have s_xp := o_xp.since
  have u_xp := o_xp.until_
  go_wp2_with fail
  refine (toi_any Aq nq cq _ q _ (hrq.below hb) hb.size (by omega)).mono ?_
  rintro e w5 ⟨rfl, o_xq, d⟩
  have z5 := d.size
  replace o_w := o_w.below d
  replace o_xp := o_xp.below d
  replace hb := below_after hb d
  clear d
  have s_xq := o_xq.since
  have u_xq := o_xq.until_
  go_wp2_with fail
  refine (unhide I  _ _ _ _ _ _ _ _ _ (o_xp.arg hnp (Nat.le_refl _) hsp) (o_xq.arg hnq (Nat.le_refl _) hsq)).mono ?_
  rintro e w6 ⟨A_g, c_g, rfl, o_g, d⟩
  have z6 := d.size
  replace o_w := o_w.below d
  replace o_xp := o_xp.below d
  replace o_xq := o_xq.below d
  replace hb := below_after hb d
  clear d
  replace o_g := o_g.sealed
  go_wp2_with fail
  refine (eqss_any _ _ _ _ _ _ _ _ _ _ o_g.opened o_w.opened (by omega) (by omega)).mono ?_
  rintro e w7 ⟨rfl, d0⟩
  have d := d0.below w6.heap.size
  clear d0
  have z7 := d.size
  replace o_w := o_w.below d
  replace o_xp := o_xp.below d
  replace o_xq := o_xq.below d
  replace o_g := o_g.below d
  replace hb := below_after hb d
  clear d
  go_wp2_with fail
  refine (toi_any Ap np cp _ p _ (hrp.below hb) hb.size (by omega)).mono ?_
  rintro e w8 ⟨rfl, o_yp, d⟩
  have z8 := d.size
  replace o_w := o_w.below d
  replace o_xp := o_xp.below d
  replace o_xq := o_xq.below d
  replace o_g := o_g.below d
  replace hb := below_after hb d
  clear d
  have s_yp := o_yp.since
  have u_yp := o_yp.until_
  go_wp2_with fail
  refine (eqi_any _ _ _ _ _ _ _ _ _ _ o_xp.reads o_yp.reads (by omega)).mono ?_
  rintro e w9 ⟨rfl, d0⟩
  have d := d0.below w8.heap.size
  clear d0
  have z9 := d.size
  replace o_w := o_w.below d
  replace o_xp := o_xp.below d
  replace o_xq := o_xq.below d
  replace o_g := o_g.below d
  replace o_yp := o_yp.below d
  replace hb := below_after hb d
  clear d
  clear o_yp s_yp u_yp
  go_wp2_with fail
  refine (toi_any Aq nq cq _ q _ (hrq.below hb) hb.size (by omega)).mono ?_
  rintro e w10 ⟨rfl, o_yq, d⟩
  have z10 := d.size
  replace o_w := o_w.below d
  replace o_xp := o_xp.below d
  replace o_xq := o_xq.below d
  replace o_g := o_g.below d
  replace hb := below_after hb d
  clear d
  have s_yq := o_yq.since
  have u_yq := o_yq.until_
  go_wp2_with fail
  refine (eqi_any _ _ _ _ _ _ _ _ _ _ o_xq.reads o_yq.reads (by omega)).mono ?_
  rintro e w11 ⟨rfl, d0⟩
  have d := d0.below w10.heap.size
  clear d0
  have z11 := d.size
  replace o_w := o_w.below d
  replace o_xp := o_xp.below d
  replace o_xq := o_xq.below d
  replace o_g := o_g.below d
  replace o_yq := o_yq.below d
  replace hb := below_after hb d
  clear d
  clear o_yq s_yq u_yq
  go_wp2_with fail
  refine (marki_at _ _ _ _ 1 _ (by omega) _ _ o_xp (by omega)).mono ?_
  rintro e w12 ⟨rfl, m_x, d⟩
  clear o_xp
  have o_xp := m_x
  clear m_x
  have z12 := d.size
  replace o_w := o_w.stay (below_of_grown d (by omega) s_xp) (by omega)
  replace o_xq := o_xq.kept d (apart' s_xq u_xp (by omega))
  replace o_g := o_g.after d u_xp (by omega)
  replace hb := below_row hb d hb.size (s_xp.mono (by omega))
  clear d
  go_wp2_with fail
  refine (marki_at _ _ _ _ (1 + np) _ (by omega) _ _ o_xq (by omega)).mono ?_
  rintro e w13 ⟨rfl, m_x, d⟩
  clear o_xq
  have o_xq := m_x
  clear m_x
  have z13 := d.size
  replace o_w := o_w.stay (below_of_grown d (by omega) s_xq) (by omega)
  replace o_xp := o_xp.kept d (apart u_xp s_xq (by omega))
  replace o_g := o_g.after d u_xq (by omega)
  replace hb := below_row hb d hb.size (s_xq.mono (by omega))
  clear d
  clear o_xp s_xp u_xp
  clear o_xq s_xq u_xq
  go_wp2_with fail
  refine (eqss_any _ _ _ _ _ _ _ _ _ _ o_g.opened o_w.opened (by omega) (by omega)).mono ?_
  rintro e w14 ⟨rfl, d0⟩
  have d := d0.below w13.heap.size
  clear d0
  have z14 := d.size
  replace o_w := o_w.below d
  replace o_g := o_g.below d
  replace hb := below_after hb d
  clear d
  go_wp2_with fail
  refine (markss_in _ _ _ _ _ 1 _ (by omega) _ _ o_g (by omega) (by omega)).mono ?_
  rintro e w15 ⟨rfl, m_x, d⟩
  clear o_g
  have o_g := m_x
  clear m_x
  have z15 := d.size
  replace o_w := o_w.turnLow d (by omega)
  replace hb := hb.trans ((d.below (by omega)).mono (by omega))
  clear d
  go_wp2_with fail
  refine (heldss_any _ _ _ _ 1 _ (by omega) _ _ o_g.opened (by omega) (by omega)).mono ?_
  rintro e wx ⟨rfl, rfl⟩
  go_wp2_with fail
  refine (toi_any Ap np cp _ p _ (hrp.below hb) hb.size (by omega)).mono ?_
  rintro e w16 ⟨rfl, o_tp, d⟩
  have z16 := d.size
  replace o_w := o_w.below d
  replace o_g := o_g.below d
  replace hb := below_after hb d
  clear d
  have s_tp := o_tp.since
  have u_tp := o_tp.until_
  go_wp2_with fail
  refine (toi_any Aq nq cq _ q _ (hrq.below hb) hb.size (by omega)).mono ?_
  rintro e w17 ⟨rfl, o_tq, d⟩
  have z17 := d.size
  replace o_w := o_w.below d
  replace o_g := o_g.below d
  replace o_tp := o_tp.below d
  replace hb := below_after hb d
  clear d
  have s_tq := o_tq.since
  have u_tq := o_tq.until_
  go_wp2_with fail
  refine (unhide I  _ _ _ _ _ _ _ _ _ (o_tp.arg hnp (Nat.le_refl _) hsp) (o_tq.arg hnq (Nat.le_refl _) hsq)).mono ?_
  rintro e w18 ⟨A_h, c_h, rfl, o_h, d⟩
  have z18 := d.size
  replace o_w := o_w.below d
  replace o_g := o_g.below d
  replace o_tp := o_tp.below d
  replace o_tq := o_tq.below d
  replace hb := below_after hb d
  clear d
  replace o_h := o_h.sealed
  go_wp2_with fail
  refine (eqss_any _ _ _ _ _ _ _ _ _ _ o_h.opened o_w.opened (by omega) (by omega)).mono ?_
  rintro e w19 ⟨rfl, d0⟩
  have d := d0.below w18.heap.size
  clear d0
  have z19 := d.size
  replace o_w := o_w.below d
  replace o_g := o_g.below d
  replace o_tp := o_tp.below d
  replace o_tq := o_tq.below d
  replace o_h := o_h.below d
  replace hb := below_after hb d
  clear d
  go_wp2_with fail
  refine (heldss_any _ _ _ _ 1 _ (by omega) _ _ o_g.opened (by omega) (by omega)).mono ?_
  rintro e wx ⟨rfl, rfl⟩
  go_wp2
  go_ret
  exact ⟨rfl, hb⟩

theorem params_ok : ∀ t ∈ (#[24, 24] : Array TypeId).toList, Try.prog.readableRec t = true ∧ t < Try.prog.types.size := by
  intro t ht
  simp only [List.mem_cons, List.not_mem_nil, or_false] at ht
  rcases ht with rfl | rfl
  all_goals exact ⟨by kernel_rfl, of_decide_eq_true (by kernel_rfl)⟩

set_option maxRecDepth 100000 in
/-- WHAT THE WALK GIVES, FOR EVERY ARGUMENT. -/
theorem contract (H : Type) (enc : TypeId × Value → H) (W : World) (base : Nat) (args : Array Value) (ds gs : List (DataW H)) (before : List MemPlace)
    (hval : ∀ (j : Nat) t v, Try.f5.params[j]? = some t → args[j]? = some v → Value.okWide Try.prog W .any base t v)
    (hW : DataW.Whole enc Try.prog Try.f5.params.toList Rows.fnExactOccurrencesOfSpec.vars false W args.toList ds gs before) :
    Calls Try.prog 5 args W fun e W' => ∃ v, e = .returned v ∧ Rows.fnExactOccurrencesOfSpec.post enc Try.prog Try.f5 false true false false W args v W' := by
  have hW' := hW
  obtain ⟨p, q, hA0, hV, rfl, hfz, hnd⟩ := hW
  have hA : DataW.TrodAll enc Try.prog W 0 (fun _ => true) true Try.f5.params.toList args.toList ds p := hA0
  rw [Try.params5] at hA hval
  obtain ⟨v0, v1, d0, d1, p0, p1, rfl, rfl, rfl, h0, h1⟩ := trodAll_two hA
  obtain ⟨rfl, rfl⟩ := trodVars_none hV
  obtain ⟨Aq, nq, cq, q, rfl, hrq, hnq, wfq⟩ := open_ints_reads Try.underlying24 Try.underlying3 cellsInt (hval 1 24 v1 rfl rfl) h1 (fun x hx => by simpa using hW'.lt x (by simp [hx]))
  have hsq : Small q := small_of_wf wfq
  obtain ⟨Ap, np, cp, p, rfl, hrp, hnp, wfp⟩ := open_ints_reads Try.underlying24 Try.underlying3 cellsInt (hval 0 24 v0 rfl rfl) h0 (fun x hx => by simpa using hW'.lt x (by simp [hx]))
  have hsp : Small p := small_of_wf wfp
  refine (walk W Ap np cp p hrp hnp hsp Aq nq cq q hrq hnq hsq (occR p q) (by have := (occ_room p q).1; omega) (by have := (occ_room p q).2; omega) (hide (fun w A n c B A' n' c' B' h h' => soccs_any A A' n c B n' c' B' p q w h h')) (hide (fun w A n c B A' n' c' B' h h' => ioccs_any A A' n c B n' c' B' p q w h h'))).mono fun e W' ⟨he, hb⟩ => ?_
  subst he
  exact ⟨_, rfl, law_end laidOut (by rw [Try.params5]; exact params_ok) Try.underlying4 rfl rfl hW' rfl hb⟩

set_option maxRecDepth 100000 in
theorem lifted (os : Os) (started : os.Started) (H : Type) (enc : TypeId × Value → H) :
    ReturnsInHanded {} Try.checked os 5 .any (Rows.fnExactOccurrencesOfSpec.pre6 enc Try.prog Try.f5 Rows.fnExactOccurrencesOfRow.domain false) (Rows.fnExactOccurrencesOfSpec.post enc Try.prog Try.f5 false true false false) := by
  refine returnsInHanded_of_change (C := Try.checked) own started (by kernel_rfl) Try.func5
    (ChangeSpec.witness6 (enc := enc) (C := Try.checked) false ⟨#[], #[.slice none 0 0, .slice none 0 0], []⟩ 8 (by kernel_rfl) (by kernel_rfl) (by kernel_rfl) (by kernel_rfl)) ?_
  intro W base args ds gs before hval hW _ _
  exact contract H enc W base args ds gs before hval hW

theorem proved : Rows.FnExactOccurrencesOfSaid :=
  OpenClaim.holds_of_wide 5 Try.f5 rfl rfl rfl rfl rfl rfl rfl ⟨rfl, rfl, rfl, rfl, rfl⟩ rfl rfl rfl rfl rfl (by kernel_rfl) Try.func5 (by kernel_rfl)
    (of_decide_eq_true (by kernel_rfl)) (by unfold Func.isWrapper; first | (rw [if_pos (by decide +kernel)]; kernel_rfl) | (rw [if_neg (by decide +kernel)]; exact ⟨rfl, rfl⟩))
    (fun os started H enc _ => lifted os started H enc)
end Go.Proofs.Ytichenjbkclljaa.fnExactOccurrencesOf
