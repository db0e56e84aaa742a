/-
  For every string the law FnExactParseBasis answers true.
  Conditions: none beyond the row's own (what is read lies within the row's reach).
-/
import Derived.Test.YtplchjeamooliaaDoorB4
import Derived.Test.YtplchjeamooliaaDoorB9
import Derived.Test.YtplchjeamooliaaDoorB6
import Derived.Test.YtplchjeamooliaaDoorB10
import Derived.Test.YtplchjeamooliaaDoorB2







namespace Go.Proofs.YtplchjeamooliaaDoor.fnExactParseBasis
set_option maxRecDepth 100000
open Go.ChangeShapes Go.WideShapes Go.ChangeAt Go.RowKit

theorem pbR_rows (s : ByteArray) : (pbR s).length ≤ 8 ∧ tot (pbR s) ≤ 64 := by
  unfold pbR
  split
  · simp [tot]
  · rename_i h
    split
    · rename_i hk
      unfold pbOK at hk
      rw [if_neg h, Bool.and_eq_true] at hk
      have h1 := basis_le hk.2
      exact ⟨h1, by have := tot_room 8 _ (fun z hz => isP_le (basis_isP hk.2 z hz).1); omega⟩
    · simp [tot]
set_option maxRecDepth 100000 in
set_option maxHeartbeats 1600000 in
theorem walk (w : World) (q : ByteArray) (hq : q.size ≤ maxLen) (R : List (List Int)) (ok : Bool) (hR : R.length ≤ 1048576) (hT : tot R ≤ 1048576)
    (S : Hid (q.size ≤ 1048576 → ∀ (w : World) ,  Calls Tryd.prog 4 #[.string q] w (GivesSSB w R ok)))
    (I : Hid (q.size ≤ 1048576 → ∀ (w9 : World), Below w.heap.size w w9 → Calls Tryd.prog 5 #[.string q] w9 (GivesSSB w9 R ok))) :
    Calls Tryd.prog 3 #[.string q] w fun e w' => e = .returned (.bool true) ∧ Below w.heap.size w w' := by
  unfold maxLen at hq
  by_cases hnq : q.size ≤ 1048576
  rotate_left
  · have hbig : 1048576 < q.size := by omega
    clear S I
    go_enter Tryd.func3, Tryd.ntmps3
    go_wp2
    go_ret
    exact ⟨rfl, Below.refl _ _⟩
  cases ok
  all_goals
    have hb : Below w.heap.size w w := Below.refl _ _
    go_enter Tryd.func3, Tryd.ntmps3
    go_wp2_with fail
    refine (unhide S hnq _).mono ?_
    rintro e w1 ⟨A_w, c_w, rfl, o_w, d⟩
    have z1 := d.size
    replace hb := below_after hb d
    clear d
    replace o_w := o_w.sealed
    go_wp2_with fail
    refine (unhide I hnq _ hb).mono ?_
    rintro e w2 ⟨A_g, c_g, rfl, o_g, d⟩
    have z2 := d.size
    replace o_w := o_w.below d
    replace hb := below_after hb d
    clear d
    replace o_g := o_g.sealed
    go_wp2_with fail
    refine (eqss_any _ _ _ _ _ _ _ _ _ _ o_g.opened o_w.opened (by omega) (by omega)).mono ?_
    rintro e w3 ⟨rfl, d0⟩
    have d := d0.below w2.heap.size
    clear d0
    have z3 := d.size
    replace o_w := o_w.below d
    replace o_g := o_g.below d
    replace hb := below_after hb d
    clear d
    go_wp2_with fail
    refine (markss_in _ _ _ _ _ 1 _ (by omega) _ _ o_g (by omega) (by omega)).mono ?_
    rintro e w4 ⟨rfl, m_x, d⟩
    clear o_g
    have o_g := m_x
    clear m_x
    have z4 := d.size
    replace o_w := o_w.turnLow d (by omega)
    replace hb := hb.trans ((d.below (by omega)).mono (by omega))
    clear d
    go_wp2_with fail
    refine (heldss_any _ _ _ _ 1 _ (by omega) _ _ o_g.opened (by omega) (by omega)).mono ?_
    rintro e wx ⟨rfl, rfl⟩
    go_wp2_with fail
    refine (unhide I hnq _ hb).mono ?_
    rintro e w5 ⟨A_h, c_h, rfl, o_h, d⟩
    have z5 := d.size
    replace o_w := o_w.below d
    replace o_g := o_g.below d
    replace hb := below_after hb d
    clear d
    replace o_h := o_h.sealed
    go_wp2_with fail
    refine (eqss_any _ _ _ _ _ _ _ _ _ _ o_h.opened o_w.opened (by omega) (by omega)).mono ?_
    rintro e w6 ⟨rfl, d0⟩
    have d := d0.below w5.heap.size
    clear d0
    have z6 := d.size
    replace o_w := o_w.below d
    replace o_g := o_g.below d
    replace o_h := o_h.below d
    replace hb := below_after hb d
    clear d
    go_wp2_with fail
    refine (heldss_any _ _ _ _ 1 _ (by omega) _ _ o_g.opened (by omega) (by omega)).mono ?_
    rintro e wx ⟨rfl, rfl⟩
    go_wp2
    go_ret
    exact ⟨rfl, hb⟩

theorem params_ok : ∀ t ∈ (#[9] : Array TypeId).toList, Tryd.prog.readableRec t = true ∧ t < Tryd.prog.types.size := by
  intro t ht
  simp only [List.mem_cons, List.not_mem_nil, or_false] at ht
  subst ht
  exact ⟨by kernel_rfl, of_decide_eq_true (by kernel_rfl)⟩

set_option maxRecDepth 100000 in
/-- WHAT THE WALK GIVES, FOR EVERY ARGUMENT. -/
theorem contract (H : Type) (enc : TypeId × Value → H) (W : World) (base : Nat) (args : Array Value) (ds gs : List (DataW H)) (before : List MemPlace)
    (hval : ∀ (j : Nat) t v, Tryd.f3.params[j]? = some t → args[j]? = some v → Value.okWide Tryd.prog W .any base t v)
    (hW : DataW.Whole enc Tryd.prog Tryd.f3.params.toList Rows.fnExactParseBasisSpec.vars false W args.toList ds gs before) (hL : laidMetH Tryd.prog Rows.fnExactParseBasisRow.laid W) (hS : W.ShapedOpen Tryd.prog) :
    Calls Tryd.prog 3 args W fun e W' => ∃ v, e = .returned v ∧ Rows.fnExactParseBasisSpec.post enc Tryd.prog Tryd.f3 false true false false W args v W' := by
  have hW' := hW
  obtain ⟨p, q, hA0, hV, rfl, hfz, hnd⟩ := hW
  have hA : DataW.TrodAll enc Tryd.prog W 0 (fun _ => true) true Tryd.f3.params.toList args.toList ds p := hA0
  rw [Tryd.params3] at hA hval
  obtain ⟨v0, d0, rfl, rfl, h0⟩ := trodAll_one hA
  obtain ⟨rfl, rfl⟩ := trodVars_none hV
  obtain ⟨q, rfl, rfl, rfl, hq⟩ := Go.ChangeMaps.open_string Tryd.underlying9 (hval 0 9 v0 rfl rfl) h0
  have hL' : laidMet Tryd.prog Rows.fnExactParseBasisRow.laid W := hL
  obtain ⟨m, hm⟩ := Tryd.laysM146.s1_3 W hS
  have hmb : 0 < W.heap.size := World.block_lt_of_cell? W _ hm
  refine (walk W q hq (pbR q) (pbOK q) (by have := (pbR_rows q).1; omega) (by have := (pbR_rows q).2; omega) (hide (fun hs w => spb_any q hs w)) (hide (fun hs w9 hb => ipb_any q hs m w9 ((hb.cell (p := ⟨0, 0, none⟩) hmb).trans hm)))).mono fun e W' ⟨he, hb⟩ => ?_
  subst he
  exact ⟨_, rfl, law_end laidOut (by rw [Tryd.params3]; exact params_ok) Tryd.underlying4 rfl rfl hW' rfl hb⟩

set_option maxRecDepth 100000 in
theorem laid_met (os : Os) : laidMet Tryd.prog Rows.fnExactParseBasisRow.laid ((laidWorldS os).forCall (fun _ _ => 0) ⟨#[], #[.string .empty], []⟩).memory :=
  laidMet_of_run' 8 (by kernel_rfl) (by kernel_rfl)
set_option maxRecDepth 100000 in
theorem reads (os : Os) {H : Type} (enc : TypeId × Value → H) : ∃ places, DataW.whole enc Tryd.prog ((laidWorldS os).forCall (fun _ _ => 0) ⟨#[], #[.string .empty], []⟩).memory Tryd.f3.params.toList Rows.fnExactParseBasisSpec.vars false #[Value.string .empty].toList 8 = some ([.lit (.string [])], [], places) :=
  ⟨[], by kernel_rfl⟩

set_option maxRecDepth 100000 in
theorem lifted (os : Os) (started : os.Started) (H : Type) (enc : TypeId × Value → H) (F : Stop.Interp) :
    ReturnsInHanded {} Tryd.checked os 3 .any ((OpenSpec.ofChange Rows.fnExactParseBasisSpec).preRow enc Tryd.prog Tryd.f3 Rows.fnExactParseBasisRow.domain false Rows.fnExactParseBasisRow.laid) (((OpenSpec.ofChange Rows.fnExactParseBasisSpec).at F).post enc Tryd.prog Tryd.f3 false true false false) := by
  obtain ⟨places, hx⟩ := reads os enc
  refine returnsInHanded_of_row (C := Tryd.checked) (s := OpenSpec.ofChange Rows.fnExactParseBasisSpec) own started (by kernel_rfl) Tryd.func3
    (witness_row_at (enc := enc) (C := Tryd.checked) false (laidWorldS os) #[.string .empty] rfl (by kernel_rfl) (by kernel_rfl) (by kernel_rfl)
      (OpenSpec.preRow_of_cond 8 hx (by kernel_rfl) (fun k hk => by cases hk) (by kernel_rfl) (laid_met os))) ?_
  intro W base args ds gs before hval hW _ _ _ hL hS _
  exact contract H enc W base args ds gs before hval hW hL hS

theorem said : Rows.FnExactParseBasisSaid :=
  OpenClaim.holds_of_cond 3 Tryd.f3 rfl rfl rfl rfl rfl rfl rfl ⟨rfl, rfl, rfl, rfl, rfl⟩ rfl rfl rfl rfl rfl (by kernel_rfl) Tryd.func3 (by kernel_rfl)
    (of_decide_eq_true (by kernel_rfl)) (by unfold Func.isWrapper; first | (rw [if_pos (by decide +kernel)]; kernel_rfl) | (rw [if_neg (by decide +kernel)]; exact ⟨rfl, rfl⟩))
    (fun os started H enc _ F => by rw [OpenClaim.pre_eq_preRow]; exact lifted os started H enc F)

theorem plain (f : FuncId) (fn : Func) (hf : Tryd.pinned.checked.prog.funcNamed "loop.example/g03101/laws.FnExactParseBasis" = some f) (hfn : Tryd.pinned.checked.prog.funcs[f]? = some fn) :
    false = Tryd.pinned.checked.prog.looks [] ∧ ∀ (j : Nat) t, fn.params[j]? = some t → Tryd.pinned.checked.prog.wantsStandIn t = false := by
  obtain rfl : f = 3 := Option.some.inj ((show Tryd.prog.funcNamed "loop.example/g03101/laws.FnExactParseBasis" = some 3 by kernel_rfl).symm.trans hf) |>.symm
  obtain rfl : fn = Tryd.f3 := (Option.some.inj (Tryd.func3.symm.trans hfn)).symm
  refine ⟨by kernel_rfl, fun j t ht => ?_⟩
  rw [Tryd.params3] at ht
  obtain rfl : t = 9 := by simpa using Array.mem_of_getElem? ht
  exact (show Tryd.prog.wantsStandIn 9 = false by kernel_rfl)

theorem card : Rows.FnExactParseBasisCardSaid :=
  Claim7.holds_tied_plain_at .later [] _ _ _ _ said (fun _ h => by cases h) (by kernel_rfl) (fun _ h => by cases h) fnExactParseBasis_row_tie rfl ⟨rfl, rfl⟩ (by kernel_rfl) rfl plain (by kernel_rfl)
end Go.Proofs.YtplchjeamooliaaDoor.fnExactParseBasis
