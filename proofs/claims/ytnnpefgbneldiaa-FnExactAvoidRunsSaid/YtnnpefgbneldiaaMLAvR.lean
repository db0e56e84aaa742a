/-
  For every integer and every list of integers the law FnExactAvoidRuns answers true and leaves its arguments as they were.
  Conditions: none beyond the row's own (what is read lies within the row's reach).
-/
import Derived.Test.YtnnpefgbneldiaaB4
import Derived.Test.YtnnpefgbneldiaaB2



namespace Go.Proofs.Ytnnpefgbneldiaa.fnExactAvoidRuns
set_option maxRecDepth 100000
open Go.ChangeShapes Go.WideShapes Go.ChangeAt Go.RowKit

set_option maxRecDepth 100000 in
set_option maxHeartbeats 1600000 in
theorem walk (w : World) (m : Int) (_hm : -9223372036854775808 ≤ m ∧ m ≤ 9223372036854775807) (Aq : Option Addr) (nq cq : Nat) (q : List Int) (hrq : Reads w w.heap.size Aq nq (i64s q)) (hmq : nq ≤ maxLen) (hsq : Small q) (R : Int)
    (S : Hid ( ∀ (w : World) (A1 : Option Addr) (n1 c1 B1 : Nat), Arg w B1 A1 n1 c1 q → Calls Try.prog 23 #[.int .i64 m, .slice A1 n1 c1] w (GivesN w R)))
    (I : Hid ( ∀ (w : World) (A1 : Option Addr) (n1 c1 B1 : Nat), Arg w B1 A1 n1 c1 q → Calls Try.prog 22 #[.int .i64 m, .slice A1 n1 c1] w (GivesN w R))) :
    Calls Try.prog 5 #[.int .i64 m, .slice Aq nq cq] w fun e w' => e = .returned (.bool true) ∧ Below w.heap.size w w' := by
  unfold maxLen at hmq
  by_cases hnq : nq ≤ 1048576
  rotate_left
  · have hbig : 1048576 < nq := by omega
    clear S I
    go_enter Try.func5, Try.ntmps5
    go_wp2
    go_ret
    exact ⟨rfl, Below.refl _ _⟩
  have hb : Below w.heap.size w w := Below.refl _ _
  go_enter Try.func5, Try.ntmps5
  go_wp2_with fail
  refine (toi_any Aq nq cq _ q _ (hrq.below hb) hb.size (by omega)).mono ?_
  rintro e w1 ⟨rfl, o_tq, d⟩
  have z1 := d.size
  replace hb := below_after hb d
  clear d
  have s_tq := o_tq.since
  have u_tq := o_tq.until_
  go_wp2_with fail
  refine (unhide S  _ _ _ _ _ (o_tq.arg hnq (Nat.le_refl _) hsq)).mono ?_
  rintro e w2 ⟨rfl, d⟩
  have z2 := d.size
  replace o_tq := o_tq.below d
  replace hb := below_after hb d
  clear d
  clear o_tq s_tq u_tq
  go_wp2_with fail
  refine (toi_any Aq nq cq _ q _ (hrq.below hb) hb.size (by omega)).mono ?_
  rintro e w3 ⟨rfl, o_xq, d⟩
  have z3 := d.size
  replace hb := below_after hb d
  clear d
  have s_xq := o_xq.since
  have u_xq := o_xq.until_
  go_wp2_with fail
  refine (unhide I  _ _ _ _ _ (o_xq.arg hnq (Nat.le_refl _) hsq)).mono ?_
  rintro e w4 ⟨rfl, d⟩
  have z4 := d.size
  replace o_xq := o_xq.below d
  replace hb := below_after hb d
  clear d
  go_wp2_with fail
  refine (toi_any Aq nq cq _ q _ (hrq.below hb) hb.size (by omega)).mono ?_
  rintro e w5 ⟨rfl, o_yq, d⟩
  have z5 := d.size
  replace o_xq := o_xq.below d
  replace hb := below_after hb d
  clear d
  have s_yq := o_yq.since
  have u_yq := o_yq.until_
  go_wp2_with fail
  refine (eqi_any _ _ _ _ _ _ _ _ _ _ o_xq.reads o_yq.reads (by omega)).mono ?_
  rintro e w6 ⟨rfl, d0⟩
  have d := d0.below w5.heap.size
  clear d0
  have z6 := d.size
  replace o_xq := o_xq.below d
  replace o_yq := o_yq.below d
  replace hb := below_after hb d
  clear d
  clear o_yq s_yq u_yq
  go_wp2
  go_ret
  exact ⟨rfl, hb⟩

theorem params_ok : ∀ t ∈ (#[3, 24] : Array TypeId).toList, Try.prog.readableRec t = true ∧ t < Try.prog.types.size := by
  intro t ht
  simp only [List.mem_cons, List.not_mem_nil, or_false] at ht
  rcases ht with rfl | rfl
  all_goals exact ⟨by kernel_rfl, of_decide_eq_true (by kernel_rfl)⟩

set_option maxRecDepth 100000 in
/-- WHAT THE WALK GIVES, FOR EVERY ARGUMENT. -/
theorem contract (H : Type) (enc : TypeId × Value → H) (W : World) (base : Nat) (args : Array Value) (ds gs : List (DataW H)) (before : List MemPlace)
    (hval : ∀ (j : Nat) t v, Try.f5.params[j]? = some t → args[j]? = some v → Value.okWide Try.prog W .any base t v)
    (hW : DataW.Whole enc Try.prog Try.f5.params.toList Rows.fnExactAvoidRunsSpec.vars false W args.toList ds gs before) :
    Calls Try.prog 5 args W fun e W' => ∃ v, e = .returned v ∧ Rows.fnExactAvoidRunsSpec.post enc Try.prog Try.f5 false true false false W args v W' := by
  have hW' := hW
  obtain ⟨p, q, hA0, hV, rfl, hfz, hnd⟩ := hW
  have hA : DataW.TrodAll enc Try.prog W 0 (fun _ => true) true Try.f5.params.toList args.toList ds p := hA0
  rw [Try.params5] at hA hval
  obtain ⟨v0, v1, d0, d1, p0, p1, rfl, rfl, rfl, h0, h1⟩ := trodAll_two hA
  obtain ⟨rfl, rfl⟩ := trodVars_none hV
  obtain ⟨Aq, nq, cq, q, rfl, hrq, hnq, wfq⟩ := open_ints_reads Try.underlying24 Try.underlying3 cellsInt (hval 1 24 v1 rfl rfl) h1 (fun x hx => by simpa using hW'.lt x (by simp [hx]))
  have hsq : Small q := small_of_wf wfq
  obtain ⟨m, rfl, rfl, rfl, wm⟩ := open_int Try.underlying3 (hval 0 3 v0 rfl rfl) h0
  have hm : -9223372036854775808 ≤ m ∧ m ≤ 9223372036854775807 := by simpa [Lit.wf, IntKind.min, IntKind.max, IntKind.signed, IntKind.bits] using wm
  refine (walk W m hm Aq nq cq q hrq hnq hsq (avR m q) (hide (fun w A n c B h => sav_any m hm A n c B q w h)) (hide (fun w A n c B h => iav_any m hm A n c B q w h))).mono fun e W' ⟨he, hb⟩ => ?_
  subst he
  exact ⟨_, rfl, law_end laidOut (by rw [Try.params5]; exact params_ok) Try.underlying4 rfl rfl hW' rfl hb⟩

set_option maxRecDepth 100000 in
theorem lifted (os : Os) (started : os.Started) (H : Type) (enc : TypeId × Value → H) :
    ReturnsInHanded {} Try.checked os 5 .any (Rows.fnExactAvoidRunsSpec.pre6 enc Try.prog Try.f5 Rows.fnExactAvoidRunsRow.domain false) (Rows.fnExactAvoidRunsSpec.post enc Try.prog Try.f5 false true false false) := by
  refine returnsInHanded_of_change (C := Try.checked) own started (by kernel_rfl) Try.func5
    (ChangeSpec.witness6 (enc := enc) (C := Try.checked) false ⟨#[], #[.int .i64 0, .slice none 0 0], []⟩ 8 (by kernel_rfl) (by kernel_rfl) (by kernel_rfl) (by kernel_rfl)) ?_
  intro W base args ds gs before hval hW _ _
  exact contract H enc W base args ds gs before hval hW

theorem proved : Rows.FnExactAvoidRunsSaid :=
  OpenClaim.holds_of_wide 5 Try.f5 rfl rfl rfl rfl rfl rfl rfl ⟨rfl, rfl, rfl, rfl, rfl⟩ rfl rfl rfl rfl rfl (by kernel_rfl) Try.func5 (by kernel_rfl)
    (of_decide_eq_true (by kernel_rfl)) (by unfold Func.isWrapper; first | (rw [if_pos (by decide +kernel)]; kernel_rfl) | (rw [if_neg (by decide +kernel)]; exact ⟨rfl, rfl⟩))
    (fun os started H enc _ => lifted os started H enc)
end Go.Proofs.Ytnnpefgbneldiaa.fnExactAvoidRuns
