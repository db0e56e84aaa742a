/-
  For every integer the law FnExactEulerRow answers true.
  Conditions: none beyond the row's own (what is read lies within the row's reach).
-/
import Derived.Test.YtcnmnpbipencmaaB4
import Derived.Test.YtcnmnpbipencmaaB1
import Derived.Test.YtcnmnpbipencmaaB3




namespace Go.Proofs.Ytcnmnpbipencmaa.fnExactEulerRow
set_option maxRecDepth 100000
open Go.ChangeShapes Go.WideShapes Go.ChangeAt Go.RowKit

set_option maxRecDepth 100000 in
set_option maxHeartbeats 1600000 in
theorem walk (w : World) (m : Int) (_hm : -9223372036854775808 ≤ m ∧ m ≤ 9223372036854775807) (R : List Int) (hR : R.length ≤ 1048576)
    (S : Hid ( ∀ (w : World) ,  Calls Try.prog 37 #[.int .i64 m] w (GivesI w R)))
    (I : Hid ( ∀ (w : World) ,  Calls Try.prog 17 #[.int .i64 m] w (GivesI w R))) :
    Calls Try.prog 12 #[.int .i64 m] w fun e w' => e = .returned (.bool true) ∧ Below w.heap.size w w' := by
  have hb : Below w.heap.size w w := Below.refl _ _
  go_enter Try.func12, Try.ntmps12
  go_wp2_with fail
  refine (unhide S  _  ).mono ?_
  rintro e w1 ⟨A_w, c_w, rfl, o_w, d⟩
  have z1 := d.size
  replace hb := below_after hb d
  clear d
  have s_w := o_w.since
  have u_w := o_w.until_
  go_wp2_with fail
  refine (unhide I  _  ).mono ?_
  rintro e w2 ⟨A_g, c_g, rfl, o_g, d⟩
  have z2 := d.size
  replace o_w := o_w.below d
  replace hb := below_after hb d
  clear d
  have s_g := o_g.since
  have u_g := o_g.until_
  go_wp2_with fail
  refine (eqi_any _ _ _ _ _ _ _ _ _ _ o_g.reads o_w.reads (by omega)).mono ?_
  rintro e w3 ⟨rfl, d0⟩
  have d := d0.below w2.heap.size
  clear d0
  have z3 := d.size
  replace o_w := o_w.below d
  replace o_g := o_g.below d
  replace hb := below_after hb d
  clear d
  go_wp2_with fail
  refine (marki_at _ _ _ _ 1 _ (by omega) _ _ o_g (by omega)).mono ?_
  rintro e w4 ⟨rfl, m_x, d⟩
  clear o_g
  have o_g := m_x
  clear m_x
  have z4 := d.size
  replace o_w := o_w.kept d (apart u_w s_g (by omega))
  replace hb := below_row hb d hb.size (s_g.mono (by omega))
  clear d
  go_wp2_with fail
  refine (heldi_at _ _ _ _ 1 _ (by omega) _ o_g.reads (by omega)).mono ?_
  rintro e wx ⟨rfl, rfl⟩
  go_wp2_with fail
  refine (unhide I  _  ).mono ?_
  rintro e w5 ⟨A_h, c_h, rfl, o_h, d⟩
  have z5 := d.size
  replace o_w := o_w.below d
  replace o_g := o_g.below d
  replace hb := below_after hb d
  clear d
  have s_h := o_h.since
  have u_h := o_h.until_
  go_wp2_with fail
  refine (eqi_any _ _ _ _ _ _ _ _ _ _ o_h.reads o_w.reads (by omega)).mono ?_
  rintro e w6 ⟨rfl, d0⟩
  have d := d0.below w5.heap.size
  clear d0
  have z6 := d.size
  replace o_w := o_w.below d
  replace o_g := o_g.below d
  replace o_h := o_h.below d
  replace hb := below_after hb d
  clear d
  go_wp2_with fail
  refine (heldi_at _ _ _ _ 1 _ (by omega) _ o_g.reads (by omega)).mono ?_
  rintro e wx ⟨rfl, rfl⟩
  go_wp2
  go_ret
  exact ⟨rfl, hb⟩

theorem params_ok : ∀ t ∈ (#[3] : Array TypeId).toList, Try.prog.readableRec t = true ∧ t < Try.prog.types.size := by
  intro t ht
  simp only [List.mem_cons, List.not_mem_nil, or_false] at ht
  subst ht
  exact ⟨by kernel_rfl, of_decide_eq_true (by kernel_rfl)⟩

set_option maxRecDepth 100000 in
/-- WHAT THE WALK GIVES, FOR EVERY ARGUMENT. -/
theorem contract (H : Type) (enc : TypeId × Value → H) (W : World) (base : Nat) (args : Array Value) (ds gs : List (DataW H)) (before : List MemPlace)
    (hval : ∀ (j : Nat) t v, Try.f12.params[j]? = some t → args[j]? = some v → Value.okWide Try.prog W .any base t v)
    (hW : DataW.Whole enc Try.prog Try.f12.params.toList Rows.fnExactEulerRowSpec.vars false W args.toList ds gs before) :
    Calls Try.prog 12 args W fun e W' => ∃ v, e = .returned v ∧ Rows.fnExactEulerRowSpec.post enc Try.prog Try.f12 false true false false W args v W' := by
  have hW' := hW
  obtain ⟨p, q, hA0, hV, rfl, hfz, hnd⟩ := hW
  have hA : DataW.TrodAll enc Try.prog W 0 (fun _ => true) true Try.f12.params.toList args.toList ds p := hA0
  rw [Try.params12] at hA hval
  obtain ⟨v0, d0, rfl, rfl, h0⟩ := trodAll_one hA
  obtain ⟨rfl, rfl⟩ := trodVars_none hV
  obtain ⟨m, rfl, rfl, rfl, wm⟩ := open_int Try.underlying3 (hval 0 3 v0 rfl rfl) h0
  have hm : -9223372036854775808 ≤ m ∧ m ≤ 9223372036854775807 := by simpa [Lit.wf, IntKind.min, IntKind.max, IntKind.signed, IntKind.bits] using wm
  refine (walk W m hm (eulR m) (by have := eulR_le m; omega) (hide (fun w => seul_any m hm w)) (hide (fun w => ieul_any m hm w))).mono fun e W' ⟨he, hb⟩ => ?_
  subst he
  exact ⟨_, rfl, law_end laidOut (by rw [Try.params12]; exact params_ok) Try.underlying4 rfl rfl hW' rfl hb⟩

set_option maxRecDepth 100000 in
theorem lifted (os : Os) (started : os.Started) (H : Type) (enc : TypeId × Value → H) :
    ReturnsInHanded {} Try.checked os 12 .any (Rows.fnExactEulerRowSpec.pre6 enc Try.prog Try.f12 Rows.fnExactEulerRowRow.domain false) (Rows.fnExactEulerRowSpec.post enc Try.prog Try.f12 false true false false) := by
  refine returnsInHanded_of_change (C := Try.checked) own started (by kernel_rfl) Try.func12
    (ChangeSpec.witness6 (enc := enc) (C := Try.checked) false ⟨#[], #[.int .i64 0], []⟩ 8 (by kernel_rfl) (by kernel_rfl) (by kernel_rfl) (by kernel_rfl)) ?_
  intro W base args ds gs before hval hW _ _
  exact contract H enc W base args ds gs before hval hW

theorem proved : Rows.FnExactEulerRowSaid :=
  OpenClaim.holds_of_wide 12 Try.f12 rfl rfl rfl rfl rfl rfl rfl ⟨rfl, rfl, rfl, rfl, rfl⟩ rfl rfl rfl rfl rfl (by kernel_rfl) Try.func12 (by kernel_rfl)
    (of_decide_eq_true (by kernel_rfl)) (by unfold Func.isWrapper; first | (rw [if_pos (by decide +kernel)]; kernel_rfl) | (rw [if_neg (by decide +kernel)]; exact ⟨rfl, rfl⟩))
    (fun os started H enc _ => lifted os started H enc)
end Go.Proofs.Ytcnmnpbipencmaa.fnExactEulerRow
