/-
  For every string the law FnExactParseNear answers true.
  Conditions: none beyond the row's own (what is read lies within the row's reach).
-/
import Derived.Test.YtabfjmabiapgoaaDoorB7
import Derived.Test.YtabfjmabiapgoaaDoorB3
import Derived.Test.YtabfjmabiapgoaaDoorB4





namespace Go.Proofs.YtabfjmabiapgoaaDoor.fnExactParseNear
set_option maxRecDepth 100000
open Go.ChangeShapes Go.WideShapes Go.ChangeAt Go.RowKit

theorem parQ_le (s : ByteArray) : (parQ s).length ≤ 8 ∧ (parN s).length ≤ 1048576 := by
  unfold parQ parN
  cases h : parOK s with
  | false => simp
  | true =>
    rw [if_pos rfl, if_pos rfl]
    have h8 := ppR_le (digB s)
    refine ⟨h8, ?_⟩
    unfold parOK at h
    rw [Bool.and_eq_true, decide_eq_true_eq] at h
    cases hn : nearOK (ppR (digB s)) (parJ s) with
    | true => have := plOK_len (nearOK_iff.1 hn).2; omega
    | false =>
      have h2 := h.2
      rw [ntext_no hn] at h2
      have h3 := parJ_len s
      have hz : s.size = 0 := by rw [← h2]; rfl
      omega
set_option maxRecDepth 100000 in
set_option maxHeartbeats 1600000 in
theorem walk (w : World) (q : ByteArray) (hq : q.size ≤ maxLen) (R Q : List Int) (ok : Bool) (hR : R.length ≤ 1048576) (hQ : Q.length ≤ 1048576)
    (S : Hid (q.size ≤ 1048576 → ∀ (w : World) ,  Calls Tryd.prog 10 #[.string q] w (GivesNB w R Q ok)))
    (I : Hid (q.size ≤ 1048576 → ∀ (w9 : World), Below w.heap.size w w9 → Calls Tryd.prog 9 #[.string q] w9 (GivesNB w9 R Q ok))) :
    Calls Tryd.prog 4 #[.string q] w fun e w' => e = .returned (.bool true) ∧ Below w.heap.size w w' := by
  unfold maxLen at hq
  by_cases hnq : q.size ≤ 1048576
  rotate_left
  · have hbig : 1048576 < q.size := by omega
    clear S I
    go_enter Tryd.func4, Tryd.ntmps4
    go_wp2
    go_ret
    exact ⟨rfl, Below.refl _ _⟩
  cases ok
  all_goals
    have hb : Below w.heap.size w w := Below.refl _ _
    go_enter Tryd.func4, Tryd.ntmps4
    go_wp2_with fail
    refine (unhide S hnq _).mono ?_
    rintro e w1 ⟨A_w, c_w, P_w, q_w, rfl, o_w, d⟩
    have z1 := d.size
    replace hb := below_after hb d
    clear d
    replace o_w := o_w.sealed
    go_wp2_with fail
    obtain ⟨w2, hw⟩ : ∃ W : World, W = w1.alloc (.cells #[.slice A_w R.length c_w, .slice P_w Q.length q_w] 26) := ⟨_, rfl⟩
    rw [← hw]
    have d : Below w1.heap.size w1 w2 := by rw [hw]; exact (Below.refl _ _).alloc (Nat.le_refl _) _
    have k_w : Whole w2 w1.heap.size 26 #[.slice A_w R.length c_w, .slice P_w Q.length q_w] := by rw [hw]; exact Whole.new _ _ _
    clear hw
    have z2 := d.size
    replace o_w := o_w.below d
    replace hb := below_after hb d
    clear d
    have l_w := k_w.lt
    refine (unhide I hnq _ hb).mono ?_
    rintro e w3 ⟨A_g, c_g, P_g, q_g, rfl, o_g, d⟩
    have z3 := d.size
    replace o_w := o_w.below d
    replace k_w := k_w.below d k_w.lt
    replace hb := below_after hb d
    clear d
    replace o_g := o_g.sealed
    have q0_w := k_w.cell 0
    have q1_w := k_w.cell 1
    have q2_w := k_w.lt
    simp only [List.getElem?_toArray, List.getElem?_cons_zero, List.getElem?_cons_succ] at q0_w q1_w
    go_wp2_with fail
    clear q0_w q1_w q2_w
    obtain ⟨w4, hw⟩ : ∃ W : World, W = w3.alloc (.cells #[.slice A_g R.length c_g, .slice P_g Q.length q_g] 26) := ⟨_, rfl⟩
    rw [← hw]
    have d : Below w3.heap.size w3 w4 := by rw [hw]; exact (Below.refl _ _).alloc (Nat.le_refl _) _
    have k_g : Whole w4 w3.heap.size 26 #[.slice A_g R.length c_g, .slice P_g Q.length q_g] := by rw [hw]; exact Whole.new _ _ _
    clear hw
    have z4 := d.size
    replace o_w := o_w.below d
    replace o_g := o_g.below d
    replace k_w := k_w.below d k_w.lt
    replace hb := below_after hb d
    clear d
    have l_g := k_g.lt
    have q0_g := k_g.cell 0
    have q1_g := k_g.cell 1
    have q2_g := k_g.lt
    simp only [List.getElem?_toArray, List.getElem?_cons_zero, List.getElem?_cons_succ] at q0_g q1_g
    have q0_w := k_w.cell 0
    have q1_w := k_w.cell 1
    have q2_w := k_w.lt
    simp only [List.getElem?_toArray, List.getElem?_cons_zero, List.getElem?_cons_succ] at q0_w q1_w
    refine (eqnear_any _ _ _ _ _ _ _ _ _ _ _ _ _ _ _ _ _ o_g.opened o_w.opened (by omega) (by omega)).mono ?_
    rintro e w5 ⟨rfl, d⟩
    have z5 := d.size
    replace o_w := o_w.below d
    replace o_g := o_g.below d
    replace k_w := k_w.below d k_w.lt
    replace k_g := k_g.below d k_g.lt
    replace hb := below_after hb d
    clear d
    clear q0_g q1_g q2_g q0_w q1_w q2_w
    have q0_g := k_g.cell 0
    have q1_g := k_g.cell 1
    have q2_g := k_g.lt
    simp only [List.getElem?_toArray, List.getElem?_cons_zero, List.getElem?_cons_succ] at q0_g q1_g
    go_wp2_with fail
    refine (marknear_in _ _ _ _ _ _ _ _ 1 _ (by omega) _ _ _ o_g (by omega) (by omega)).mono ?_
    rintro e w6 ⟨rfl, m_x, d⟩
    clear o_g
    have o_g := m_x
    clear m_x
    have z6 := d.size
    replace o_w := o_w.turnLow d (by omega)
    replace k_w := k_w.turned d (by omega)
    replace k_g := k_g.turned d (by omega)
    replace hb := hb.trans ((d.below (by omega)).mono (by omega))
    clear d
    clear q0_g q1_g q2_g
    have q0_g := k_g.cell 0
    have q1_g := k_g.cell 1
    have q2_g := k_g.lt
    simp only [List.getElem?_toArray, List.getElem?_cons_zero, List.getElem?_cons_succ] at q0_g q1_g
    go_wp2_with fail
    refine (heldnear_any _ _ _ _ _ _ _ 1 _ (by omega) _ _ _ o_g.opened (by omega)).mono ?_
    rintro e w7 ⟨rfl, d⟩
    have z7 := d.size
    replace o_w := o_w.below d
    replace o_g := o_g.below d
    replace k_w := k_w.below d k_w.lt
    replace k_g := k_g.below d k_g.lt
    replace hb := below_after hb d
    clear d
    clear q0_g q1_g q2_g
    go_wp2_with fail
    refine (unhide I hnq _ hb).mono ?_
    rintro e w8 ⟨A_h, c_h, P_h, q_h, rfl, o_h, d⟩
    have z8 := d.size
    replace o_w := o_w.below d
    replace o_g := o_g.below d
    replace k_w := k_w.below d k_w.lt
    replace k_g := k_g.below d k_g.lt
    replace hb := below_after hb d
    clear d
    replace o_h := o_h.sealed
    have q0_w := k_w.cell 0
    have q1_w := k_w.cell 1
    have q2_w := k_w.lt
    simp only [List.getElem?_toArray, List.getElem?_cons_zero, List.getElem?_cons_succ] at q0_w q1_w
    have q0_g := k_g.cell 0
    have q1_g := k_g.cell 1
    have q2_g := k_g.lt
    simp only [List.getElem?_toArray, List.getElem?_cons_zero, List.getElem?_cons_succ] at q0_g q1_g
    go_wp2_with fail
    clear q0_w q1_w q2_w q0_g q1_g q2_g
    obtain ⟨w9, hw⟩ : ∃ W : World, W = w8.alloc (.cells #[.slice A_h R.length c_h, .slice P_h Q.length q_h] 26) := ⟨_, rfl⟩
    rw [← hw]
    have d : Below w8.heap.size w8 w9 := by rw [hw]; exact (Below.refl _ _).alloc (Nat.le_refl _) _
    have k_h : Whole w9 w8.heap.size 26 #[.slice A_h R.length c_h, .slice P_h Q.length q_h] := by rw [hw]; exact Whole.new _ _ _
    clear hw
    have z9 := d.size
    replace o_w := o_w.below d
    replace o_g := o_g.below d
    replace o_h := o_h.below d
    replace k_w := k_w.below d k_w.lt
    replace k_g := k_g.below d k_g.lt
    replace hb := below_after hb d
    clear d
    have l_h := k_h.lt
    have q0_h := k_h.cell 0
    have q1_h := k_h.cell 1
    have q2_h := k_h.lt
    simp only [List.getElem?_toArray, List.getElem?_cons_zero, List.getElem?_cons_succ] at q0_h q1_h
    have q0_w := k_w.cell 0
    have q1_w := k_w.cell 1
    have q2_w := k_w.lt
    simp only [List.getElem?_toArray, List.getElem?_cons_zero, List.getElem?_cons_succ] at q0_w q1_w
    refine (eqnear_any _ _ _ _ _ _ _ _ _ _ _ _ _ _ _ _ _ o_h.opened o_w.opened (by omega) (by omega)).mono ?_
    rintro e w10 ⟨rfl, d⟩
    have z10 := d.size
    replace o_w := o_w.below d
    replace o_g := o_g.below d
    replace o_h := o_h.below d
    replace k_w := k_w.below d k_w.lt
    replace k_g := k_g.below d k_g.lt
    replace k_h := k_h.below d k_h.lt
    replace hb := below_after hb d
    clear d
    clear q0_h q1_h q2_h q0_w q1_w q2_w
    have q0_g := k_g.cell 0
    have q1_g := k_g.cell 1
    have q2_g := k_g.lt
    simp only [List.getElem?_toArray, List.getElem?_cons_zero, List.getElem?_cons_succ] at q0_g q1_g
    go_wp2_with fail
    refine (heldnear_any _ _ _ _ _ _ _ 1 _ (by omega) _ _ _ o_g.opened (by omega)).mono ?_
    rintro e w11 ⟨rfl, d⟩
    have z11 := d.size
    replace o_w := o_w.below d
    replace o_g := o_g.below d
    replace o_h := o_h.below d
    replace k_w := k_w.below d k_w.lt
    replace k_g := k_g.below d k_g.lt
    replace k_h := k_h.below d k_h.lt
    replace hb := below_after hb d
    clear d
    clear q0_g q1_g q2_g
    go_wp2
    go_ret
    exact ⟨rfl, hb⟩

theorem params_ok : ∀ t ∈ (#[9] : Array TypeId).toList, Tryd.prog.readableRec t = true ∧ t < Tryd.prog.types.size := by
  intro t ht
  simp only [List.mem_cons, List.not_mem_nil, or_false] at ht
  subst ht
  exact ⟨by kernel_rfl, of_decide_eq_true (by kernel_rfl)⟩

set_option maxRecDepth 100000 in
/-- WHAT THE WALK GIVES, FOR EVERY ARGUMENT. -/
theorem contract (H : Type) (enc : TypeId × Value → H) (W : World) (base : Nat) (args : Array Value) (ds gs : List (DataW H)) (before : List MemPlace)
    (hval : ∀ (j : Nat) t v, Tryd.f4.params[j]? = some t → args[j]? = some v → Value.okWide Tryd.prog W .any base t v)
    (hW : DataW.Whole enc Tryd.prog Tryd.f4.params.toList Rows.fnExactParseNearSpec.vars false W args.toList ds gs before) (hL : laidMetH Tryd.prog Rows.fnExactParseNearRow.laid W) (hS : W.ShapedOpen Tryd.prog) :
    Calls Tryd.prog 4 args W fun e W' => ∃ v, e = .returned v ∧ Rows.fnExactParseNearSpec.post enc Tryd.prog Tryd.f4 false true false false W args v W' := by
  have hW' := hW
  obtain ⟨p, q, hA0, hV, rfl, hfz, hnd⟩ := hW
  have hA : DataW.TrodAll enc Tryd.prog W 0 (fun _ => true) true Tryd.f4.params.toList args.toList ds p := hA0
  rw [Tryd.params4] at hA hval
  obtain ⟨v0, d0, rfl, rfl, h0⟩ := trodAll_one hA
  obtain ⟨rfl, rfl⟩ := trodVars_none hV
  obtain ⟨q, rfl, rfl, rfl, hq⟩ := Go.ChangeMaps.open_string Tryd.underlying9 (hval 0 9 v0 rfl rfl) h0
  have hL' : laidMet Tryd.prog Rows.fnExactParseNearRow.laid W := hL
  obtain ⟨m, hm⟩ := Tryd.laysM146.s1_3 W hS
  have hmb : 0 < W.heap.size := World.block_lt_of_cell? W _ hm
  refine (walk W q hq (parQ q) (parN q) (parOK q) (Nat.le_trans (parQ_le q).1 (by decide)) (parQ_le q).2 (hide (fun hs w => spar_any q hs w)) (hide (fun hs w9 hb => ipar_any q hs m w9 ((hb.cell (p := ⟨0, 0, none⟩) hmb).trans hm)))).mono fun e W' ⟨he, hb⟩ => ?_
  subst he
  exact ⟨_, rfl, law_end laidOut (by rw [Tryd.params4]; exact params_ok) Tryd.underlying4 rfl rfl hW' rfl hb⟩

set_option maxRecDepth 100000 in
theorem laid_met (os : Os) : laidMet Tryd.prog Rows.fnExactParseNearRow.laid ((laidWorldS os).forCall (fun _ _ => 0) ⟨#[], #[.string .empty], []⟩).memory :=
  laidMet_of_run' 8 (by kernel_rfl) (by kernel_rfl)
set_option maxRecDepth 100000 in
theorem reads (os : Os) {H : Type} (enc : TypeId × Value → H) : ∃ places, DataW.whole enc Tryd.prog ((laidWorldS os).forCall (fun _ _ => 0) ⟨#[], #[.string .empty], []⟩).memory Tryd.f4.params.toList Rows.fnExactParseNearSpec.vars false #[Value.string .empty].toList 8 = some ([.lit (.string [])], [], places) :=
  ⟨[], by kernel_rfl⟩

set_option maxRecDepth 100000 in
theorem lifted (os : Os) (started : os.Started) (H : Type) (enc : TypeId × Value → H) (F : Stop.Interp) :
    ReturnsInHanded {} Tryd.checked os 4 .any ((OpenSpec.ofChange Rows.fnExactParseNearSpec).preRow enc Tryd.prog Tryd.f4 Rows.fnExactParseNearRow.domain false Rows.fnExactParseNearRow.laid) (((OpenSpec.ofChange Rows.fnExactParseNearSpec).at F).post enc Tryd.prog Tryd.f4 false true false false) := by
  obtain ⟨places, hx⟩ := reads os enc
  refine returnsInHanded_of_row (C := Tryd.checked) (s := OpenSpec.ofChange Rows.fnExactParseNearSpec) own started (by kernel_rfl) Tryd.func4
    (witness_row_at (enc := enc) (C := Tryd.checked) false (laidWorldS os) #[.string .empty] rfl (by kernel_rfl) (by kernel_rfl) (by kernel_rfl)
      (OpenSpec.preRow_of_cond 8 hx (by kernel_rfl) (fun k hk => by cases hk) (by kernel_rfl) (laid_met os))) ?_
  intro W base args ds gs before hval hW _ _ _ hL hS _
  exact contract H enc W base args ds gs before hval hW hL hS

theorem said : Rows.FnExactParseNearSaid :=
  OpenClaim.holds_of_cond 4 Tryd.f4 rfl rfl rfl rfl rfl rfl rfl ⟨rfl, rfl, rfl, rfl, rfl⟩ rfl rfl rfl rfl rfl (by kernel_rfl) Tryd.func4 (by kernel_rfl)
    (of_decide_eq_true (by kernel_rfl)) (by unfold Func.isWrapper; first | (rw [if_pos (by decide +kernel)]; kernel_rfl) | (rw [if_neg (by decide +kernel)]; exact ⟨rfl, rfl⟩))
    (fun os started H enc _ F => by rw [OpenClaim.pre_eq_preRow]; exact lifted os started H enc F)

theorem plain (f : FuncId) (fn : Func) (hf : Tryd.pinned.checked.prog.funcNamed "loop.example/g03101/laws.FnExactParseNear" = some f) (hfn : Tryd.pinned.checked.prog.funcs[f]? = some fn) :
    false = Tryd.pinned.checked.prog.looks [] ∧ ∀ (j : Nat) t, fn.params[j]? = some t → Tryd.pinned.checked.prog.wantsStandIn t = false := by
  obtain rfl : f = 4 := Option.some.inj ((show Tryd.prog.funcNamed "loop.example/g03101/laws.FnExactParseNear" = some 4 by kernel_rfl).symm.trans hf) |>.symm
  obtain rfl : fn = Tryd.f4 := (Option.some.inj (Tryd.func4.symm.trans hfn)).symm
  refine ⟨by kernel_rfl, fun j t ht => ?_⟩
  rw [Tryd.params4] at ht
  obtain rfl : t = 9 := by simpa using Array.mem_of_getElem? ht
  exact (show Tryd.prog.wantsStandIn 9 = false by kernel_rfl)

theorem card : Rows.FnExactParseNearCardSaid :=
  Claim7.holds_tied_plain_at .later [] _ _ _ _ said (fun _ h => by cases h) (by kernel_rfl) (fun _ h => by cases h) fnExactParseNear_row_tie rfl ⟨rfl, rfl⟩ (by kernel_rfl) rfl plain (by kernel_rfl)
end Go.Proofs.YtabfjmabiapgoaaDoor.fnExactParseNear
