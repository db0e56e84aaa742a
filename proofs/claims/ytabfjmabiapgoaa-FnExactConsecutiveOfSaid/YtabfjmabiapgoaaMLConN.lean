/-
  For every list of integers the law FnExactConsecutiveOf answers true and leaves its argument as it was.
  Conditions: none beyond the row's own (what is read lies within the row's reach).
-/
import Derived.Test.YtabfjmabiapgoaaB6
import Derived.Test.YtabfjmabiapgoaaB5
import Derived.Test.YtabfjmabiapgoaaB7
import Derived.Test.YtabfjmabiapgoaaB2
import Derived.Test.YtabfjmabiapgoaaB3






namespace Go.Proofs.Ytabfjmabiapgoaa.fnExactConsecutiveOf
set_option maxRecDepth 100000
open Go.ChangeShapes Go.WideShapes Go.ChangeAt Go.RowKit

set_option maxRecDepth 100000 in
set_option maxHeartbeats 1600000 in
theorem walk (w : World) (Aq : Option Addr) (nq cq : Nat) (q : List Int) (hrq : Reads w w.heap.size Aq nq (i64s q)) (hmq : nq ≤ maxLen) (hsq : Small q) (R Q : List Int) (ok : Bool) (hR : R.length ≤ 1048576) (hQ : Q.length ≤ 1048576)
    (S : Hid ( ∀ (w : World) (A0 : Option Addr) (n0 c0 B0 : Nat), Arg w B0 A0 n0 c0 q → Calls Try.prog 23 #[.slice A0 n0 c0] w (GivesNB w R Q ok)))
    (I : Hid ( ∀ (w : World) (A0 : Option Addr) (n0 c0 B0 : Nat), Arg w B0 A0 n0 c0 q → Calls Try.prog 24 #[.slice A0 n0 c0] w (GivesNB w R Q ok))) :
    Calls Try.prog 7 #[.slice Aq nq cq] w fun e w' => e = .returned (.bool true) ∧ Below w.heap.size w w' := by
  unfold maxLen at hmq
  by_cases hnq : nq ≤ 1048576
  rotate_left
  · have hbig : 1048576 < nq := by omega
    clear S I
    go_enter Try.func7, Try.ntmps7
    go_wp2
    go_ret
    exact ⟨rfl, Below.refl _ _⟩
  cases ok
  all_goals
    have hb : Below w.heap.size w w := Below.refl _ _
    go_enter Try.func7, Try.ntmps7
    go_wp2_with fail
    refine (toi_any Aq nq cq _ q _ (hrq.below hb) hb.size (by omega)).mono ?_
    rintro e w1 ⟨rfl, o_tq, d⟩
    have z1 := d.size
    replace hb := below_after hb d
    clear d
    have s_tq := o_tq.since
    have u_tq := o_tq.until_
    go_wp2_with fail
    refine (unhide S  _ _ _ _ _ (o_tq.arg hnq (Nat.le_refl _) hsq)).mono ?_
    rintro e w2 ⟨A_w, c_w, P_w, q_w, rfl, o_w, d⟩
    have z2 := d.size
    replace o_tq := o_tq.below d
    replace hb := below_after hb d
    clear d
    replace o_w := o_w.sealed
    go_wp2_with fail
    obtain ⟨w3, hw⟩ : ∃ W : World, W = w2.alloc (.cells #[.slice A_w R.length c_w, .slice P_w Q.length q_w] 27) := ⟨_, rfl⟩
    rw [← hw]
    have d : Below w2.heap.size w2 w3 := by rw [hw]; exact (Below.refl _ _).alloc (Nat.le_refl _) _
    have k_w : Whole w3 w2.heap.size 27 #[.slice A_w R.length c_w, .slice P_w Q.length q_w] := by rw [hw]; exact Whole.new _ _ _
    clear hw
    have z3 := d.size
    replace o_tq := o_tq.below d
    replace o_w := o_w.below d
    replace hb := below_after hb d
    clear d
    have l_w := k_w.lt
    clear o_tq s_tq u_tq
    refine (toi_any Aq nq cq _ q _ (hrq.below hb) hb.size (by omega)).mono ?_
    rintro e w4 ⟨rfl, o_xq, d⟩
    have z4 := d.size
    replace o_w := o_w.below d
    replace k_w := k_w.below d k_w.lt
    replace hb := below_after hb d
    clear d
    have s_xq := o_xq.since
    have u_xq := o_xq.until_
    go_wp2_with fail
    refine (unhide I  _ _ _ _ _ (o_xq.arg hnq (Nat.le_refl _) hsq)).mono ?_
    rintro e w5 ⟨A_g, c_g, P_g, q_g, rfl, o_g, d⟩
    have z5 := d.size
    replace o_w := o_w.below d
    replace o_xq := o_xq.below d
    replace k_w := k_w.below d k_w.lt
    replace hb := below_after hb d
    clear d
    replace o_g := o_g.sealed
    have q0_w := k_w.cell 0
    have q1_w := k_w.cell 1
    have q2_w := k_w.lt
    simp only [List.getElem?_toArray, List.getElem?_cons_zero, List.getElem?_cons_succ] at q0_w q1_w
    go_wp2_with fail
    clear q0_w q1_w q2_w
    obtain ⟨w6, hw⟩ : ∃ W : World, W = w5.alloc (.cells #[.slice A_g R.length c_g, .slice P_g Q.length q_g] 27) := ⟨_, rfl⟩
    rw [← hw]
    have d : Below w5.heap.size w5 w6 := by rw [hw]; exact (Below.refl _ _).alloc (Nat.le_refl _) _
    have k_g : Whole w6 w5.heap.size 27 #[.slice A_g R.length c_g, .slice P_g Q.length q_g] := by rw [hw]; exact Whole.new _ _ _
    clear hw
    have z6 := d.size
    replace o_w := o_w.below d
    replace o_xq := o_xq.below d
    replace o_g := o_g.below d
    replace k_w := k_w.below d k_w.lt
    replace hb := below_after hb d
    clear d
    have l_g := k_g.lt
    have q0_g := k_g.cell 0
    have q1_g := k_g.cell 1
    have q2_g := k_g.lt
    simp only [List.getElem?_toArray, List.getElem?_cons_zero, List.getElem?_cons_succ] at q0_g q1_g
    have q0_w := k_w.cell 0
    have q1_w := k_w.cell 1
    have q2_w := k_w.lt
    simp only [List.getElem?_toArray, List.getElem?_cons_zero, List.getElem?_cons_succ] at q0_w q1_w
    refine (eqnear_any _ _ _ _ _ _ _ _ _ _ _ _ _ _ _ _ _ o_g.opened o_w.opened (by omega) (by omega)).mono ?_
    rintro e w7 ⟨rfl, d⟩
    have z7 := d.size
    replace o_w := o_w.below d
    replace o_xq := o_xq.below d
    replace o_g := o_g.below d
    replace k_w := k_w.below d k_w.lt
    replace k_g := k_g.below d k_g.lt
    replace hb := below_after hb d
    clear d
    clear q0_g q1_g q2_g q0_w q1_w q2_w
    go_wp2_with fail
    refine (toi_any Aq nq cq _ q _ (hrq.below hb) hb.size (by omega)).mono ?_
    rintro e w8 ⟨rfl, o_yq, d⟩
    have z8 := d.size
    replace o_w := o_w.below d
    replace o_xq := o_xq.below d
    replace o_g := o_g.below d
    replace k_w := k_w.below d k_w.lt
    replace k_g := k_g.below d k_g.lt
    replace hb := below_after hb d
    clear d
    have s_yq := o_yq.since
    have u_yq := o_yq.until_
    go_wp2_with fail
    refine (eqi_any _ _ _ _ _ _ _ _ _ _ o_xq.reads o_yq.reads (by omega)).mono ?_
    rintro e w9 ⟨rfl, d0⟩
    have d := d0.below w8.heap.size
    clear d0
    have z9 := d.size
    replace o_w := o_w.below d
    replace o_xq := o_xq.below d
    replace o_g := o_g.below d
    replace o_yq := o_yq.below d
    replace k_w := k_w.below d k_w.lt
    replace k_g := k_g.below d k_g.lt
    replace hb := below_after hb d
    clear d
    clear o_yq s_yq u_yq
    go_wp2_with fail
    refine (marki_at _ _ _ _ 1 _ (by omega) _ _ o_xq (by omega)).mono ?_
    rintro e w10 ⟨rfl, m_x, d⟩
    clear o_xq
    have o_xq := m_x
    clear m_x
    have z10 := d.size
    replace o_w := o_w.turnLow (Turned.of_grown d fun k hk => ⟨s_xq k hk, u_xq k hk⟩) (by omega)
    replace o_g := o_g.turnHigh (Turned.of_grown d fun k hk => ⟨s_xq k hk, u_xq k hk⟩) (by omega)
    replace k_w := k_w.grown d (fun e => by have h1 := s_xq _ e.symm; have h2 := u_xq _ e.symm; omega)
    replace k_g := k_g.grown d (fun e => by have h1 := s_xq _ e.symm; have h2 := u_xq _ e.symm; omega)
    replace hb := below_row hb d hb.size (s_xq.mono (by omega))
    clear d
    clear o_xq s_xq u_xq
    have q0_g := k_g.cell 0
    have q1_g := k_g.cell 1
    have q2_g := k_g.lt
    simp only [List.getElem?_toArray, List.getElem?_cons_zero, List.getElem?_cons_succ] at q0_g q1_g
    have q0_w := k_w.cell 0
    have q1_w := k_w.cell 1
    have q2_w := k_w.lt
    simp only [List.getElem?_toArray, List.getElem?_cons_zero, List.getElem?_cons_succ] at q0_w q1_w
    go_wp2_with fail
    refine (eqnear_any _ _ _ _ _ _ _ _ _ _ _ _ _ _ _ _ _ o_g.opened o_w.opened (by omega) (by omega)).mono ?_
    rintro e w11 ⟨rfl, d⟩
    have z11 := d.size
    replace o_w := o_w.below d
    replace o_g := o_g.below d
    replace k_w := k_w.below d k_w.lt
    replace k_g := k_g.below d k_g.lt
    replace hb := below_after hb d
    clear d
    clear q0_g q1_g q2_g q0_w q1_w q2_w
    have q0_g := k_g.cell 0
    have q1_g := k_g.cell 1
    have q2_g := k_g.lt
    simp only [List.getElem?_toArray, List.getElem?_cons_zero, List.getElem?_cons_succ] at q0_g q1_g
    go_wp2_with fail
    refine (marknear_in _ _ _ _ _ _ _ _ 1 _ (by omega) _ _ _ o_g (by omega) (by omega)).mono ?_
    rintro e w12 ⟨rfl, m_x, d⟩
    clear o_g
    have o_g := m_x
    clear m_x
    have z12 := d.size
    replace o_w := o_w.turnLow d (by omega)
    replace k_w := k_w.turned d (by omega)
    replace k_g := k_g.turned d (by omega)
    replace hb := hb.trans ((d.below (by omega)).mono (by omega))
    clear d
    clear q0_g q1_g q2_g
    have q0_g := k_g.cell 0
    have q1_g := k_g.cell 1
    have q2_g := k_g.lt
    simp only [List.getElem?_toArray, List.getElem?_cons_zero, List.getElem?_cons_succ] at q0_g q1_g
    go_wp2_with fail
    refine (heldnear_any _ _ _ _ _ _ _ 1 _ (by omega) _ _ _ o_g.opened (by omega)).mono ?_
    rintro e w13 ⟨rfl, d⟩
    have z13 := d.size
    replace o_w := o_w.below d
    replace o_g := o_g.below d
    replace k_w := k_w.below d k_w.lt
    replace k_g := k_g.below d k_g.lt
    replace hb := below_after hb d
    clear d
    clear q0_g q1_g q2_g
    go_wp2_with fail
    refine (toi_any Aq nq cq _ q _ (hrq.below hb) hb.size (by omega)).mono ?_
    rintro e w14 ⟨rfl, o_tq, d⟩
    have z14 := d.size
    replace o_w := o_w.below d
    replace o_g := o_g.below d
    replace k_w := k_w.below d k_w.lt
    replace k_g := k_g.below d k_g.lt
    replace hb := below_after hb d
    clear d
    have s_tq := o_tq.since
    have u_tq := o_tq.until_
    go_wp2_with fail
    refine (unhide I  _ _ _ _ _ (o_tq.arg hnq (Nat.le_refl _) hsq)).mono ?_
    rintro e w15 ⟨A_h, c_h, P_h, q_h, rfl, o_h, d⟩
    have z15 := d.size
    replace o_w := o_w.below d
    replace o_g := o_g.below d
    replace o_tq := o_tq.below d
    replace k_w := k_w.below d k_w.lt
    replace k_g := k_g.below d k_g.lt
    replace hb := below_after hb d
    clear d
    replace o_h := o_h.sealed
    have q0_w := k_w.cell 0
    have q1_w := k_w.cell 1
    have q2_w := k_w.lt
    simp only [List.getElem?_toArray, List.getElem?_cons_zero, List.getElem?_cons_succ] at q0_w q1_w
    have q0_g := k_g.cell 0
    have q1_g := k_g.cell 1
    have q2_g := k_g.lt
    simp only [List.getElem?_toArray, List.getElem?_cons_zero, List.getElem?_cons_succ] at q0_g q1_g
    go_wp2_with fail
    clear q0_w q1_w q2_w q0_g q1_g q2_g
    obtain ⟨w16, hw⟩ : ∃ W : World, W = w15.alloc (.cells #[.slice A_h R.length c_h, .slice P_h Q.length q_h] 27) := ⟨_, rfl⟩
    rw [← hw]
    have d : Below w15.heap.size w15 w16 := by rw [hw]; exact (Below.refl _ _).alloc (Nat.le_refl _) _
    have k_h : Whole w16 w15.heap.size 27 #[.slice A_h R.length c_h, .slice P_h Q.length q_h] := by rw [hw]; exact Whole.new _ _ _
    clear hw
    have z16 := d.size
    replace o_w := o_w.below d
    replace o_g := o_g.below d
    replace o_tq := o_tq.below d
    replace o_h := o_h.below d
    replace k_w := k_w.below d k_w.lt
    replace k_g := k_g.below d k_g.lt
    replace hb := below_after hb d
    clear d
    have l_h := k_h.lt
    have q0_h := k_h.cell 0
    have q1_h := k_h.cell 1
    have q2_h := k_h.lt
    simp only [List.getElem?_toArray, List.getElem?_cons_zero, List.getElem?_cons_succ] at q0_h q1_h
    have q0_w := k_w.cell 0
    have q1_w := k_w.cell 1
    have q2_w := k_w.lt
    simp only [List.getElem?_toArray, List.getElem?_cons_zero, List.getElem?_cons_succ] at q0_w q1_w
    refine (eqnear_any _ _ _ _ _ _ _ _ _ _ _ _ _ _ _ _ _ o_h.opened o_w.opened (by omega) (by omega)).mono ?_
    rintro e w17 ⟨rfl, d⟩
    have z17 := d.size
    replace o_w := o_w.below d
    replace o_g := o_g.below d
    replace o_tq := o_tq.below d
    replace o_h := o_h.below d
    replace k_w := k_w.below d k_w.lt
    replace k_g := k_g.below d k_g.lt
    replace k_h := k_h.below d k_h.lt
    replace hb := below_after hb d
    clear d
    clear q0_h q1_h q2_h q0_w q1_w q2_w
    have q0_g := k_g.cell 0
    have q1_g := k_g.cell 1
    have q2_g := k_g.lt
    simp only [List.getElem?_toArray, List.getElem?_cons_zero, List.getElem?_cons_succ] at q0_g q1_g
    go_wp2_with fail
    refine (heldnear_any _ _ _ _ _ _ _ 1 _ (by omega) _ _ _ o_g.opened (by omega)).mono ?_
    rintro e w18 ⟨rfl, d⟩
    have z18 := d.size
    replace o_w := o_w.below d
    replace o_g := o_g.below d
    replace o_tq := o_tq.below d
    replace o_h := o_h.below d
    replace k_w := k_w.below d k_w.lt
    replace k_g := k_g.below d k_g.lt
    replace k_h := k_h.below d k_h.lt
    replace hb := below_after hb d
    clear d
    clear q0_g q1_g q2_g
    go_wp2
    go_ret
    exact ⟨rfl, hb⟩

theorem params_ok : ∀ t ∈ (#[22] : Array TypeId).toList, Try.prog.readableRec t = true ∧ t < Try.prog.types.size := by
  intro t ht
  simp only [List.mem_cons, List.not_mem_nil, or_false] at ht
  subst ht
  exact ⟨by kernel_rfl, of_decide_eq_true (by kernel_rfl)⟩

set_option maxRecDepth 100000 in
/-- WHAT THE WALK GIVES, FOR EVERY ARGUMENT. -/
theorem contract (H : Type) (enc : TypeId × Value → H) (W : World) (base : Nat) (args : Array Value) (ds gs : List (DataW H)) (before : List MemPlace)
    (hval : ∀ (j : Nat) t v, Try.f7.params[j]? = some t → args[j]? = some v → Value.okWide Try.prog W .any base t v)
    (hW : DataW.Whole enc Try.prog Try.f7.params.toList Rows.fnExactConsecutiveOfSpec.vars false W args.toList ds gs before) :
    Calls Try.prog 7 args W fun e W' => ∃ v, e = .returned v ∧ Rows.fnExactConsecutiveOfSpec.post enc Try.prog Try.f7 false true false false W args v W' := by
  have hW' := hW
  obtain ⟨p, q, hA0, hV, rfl, hfz, hnd⟩ := hW
  have hA : DataW.TrodAll enc Try.prog W 0 (fun _ => true) true Try.f7.params.toList args.toList ds p := hA0
  rw [Try.params7] at hA hval
  obtain ⟨v0, d0, rfl, rfl, h0⟩ := trodAll_one hA
  obtain ⟨rfl, rfl⟩ := trodVars_none hV
  obtain ⟨Aq, nq, cq, q, rfl, hrq, hnq, wfq⟩ := open_ints_reads Try.underlying22 Try.underlying3 cellsInt (hval 0 22 v0 rfl rfl) h0 (fun x hx => by simpa using hW'.lt x (by simp [hx]))
  have hsq : Small q := small_of_wf wfq
  refine (walk W Aq nq cq q hrq hnq hsq (conQ q) (conR q) (isP q) (con_sizes q).1 (con_sizes q).2 (hide (fun w A n c B h => sconn_any A n c B q w h)) (hide (fun w A n c B h => iconn_any A n c B q w h))).mono fun e W' ⟨he, hb⟩ => ?_
  subst he
  exact ⟨_, rfl, law_end laidOut (by rw [Try.params7]; exact params_ok) Try.underlying4 rfl rfl hW' rfl hb⟩

set_option maxRecDepth 100000 in
theorem lifted (os : Os) (started : os.Started) (H : Type) (enc : TypeId × Value → H) :
    ReturnsInHanded {} Try.checked os 7 .any (Rows.fnExactConsecutiveOfSpec.pre6 enc Try.prog Try.f7 Rows.fnExactConsecutiveOfRow.domain false) (Rows.fnExactConsecutiveOfSpec.post enc Try.prog Try.f7 false true false false) := by
  refine returnsInHanded_of_change (C := Try.checked) own started (by kernel_rfl) Try.func7
    (ChangeSpec.witness6 (enc := enc) (C := Try.checked) false ⟨#[], #[.slice none 0 0], []⟩ 8 (by kernel_rfl) (by kernel_rfl) (by kernel_rfl) (by kernel_rfl)) ?_
  intro W base args ds gs before hval hW _ _
  exact contract H enc W base args ds gs before hval hW

theorem proved : Rows.FnExactConsecutiveOfSaid :=
  OpenClaim.holds_of_wide 7 Try.f7 rfl rfl rfl rfl rfl rfl rfl ⟨rfl, rfl, rfl, rfl, rfl⟩ rfl rfl rfl rfl rfl (by kernel_rfl) Try.func7 (by kernel_rfl)
    (of_decide_eq_true (by kernel_rfl)) (by unfold Func.isWrapper; first | (rw [if_pos (by decide +kernel)]; kernel_rfl) | (rw [if_neg (by decide +kernel)]; exact ⟨rfl, rfl⟩))
    (fun os started H enc _ => lifted os started H enc)
end Go.Proofs.Ytabfjmabiapgoaa.fnExactConsecutiveOf
