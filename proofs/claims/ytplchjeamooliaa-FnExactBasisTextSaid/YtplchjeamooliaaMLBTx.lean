/-
  For every list of lists of integers the law FnExactBasisText answers true and leaves its argument as it was.
  Conditions: none beyond the row's own (what is read lies within the row's reach).
-/
import Derived.Test.YtplchjeamooliaaB10
import Derived.Test.YtplchjeamooliaaB9
import Derived.Test.YtplchjeamooliaaB2
import Derived.Test.YtplchjeamooliaaB8






namespace Go.Proofs.Ytplchjeamooliaa.fnExactBasisText
set_option maxRecDepth 100000
open Go.ChangeShapes Go.WideShapes Go.ChangeAt Go.RowKit

set_option maxRecDepth 100000 in
set_option maxHeartbeats 1600000 in
theorem walk (w : World) (Ap : Option Addr) (np cp : Nat) (p : List (List Int)) (hrp : ReadsS w w.heap.size Ap np p) (hmp : np ≤ maxLen) (hsp : ∀ z ∈ p, z.length ≤ maxLen ∧ Small z) (R : ByteArray)
    (S : Hid (p.length + tot p ≤ 1048576 → ∀ (w : World) (A0 : Option Addr) (n0 c0 B0 : Nat), IntsS w B0 (.slice A0 n0 c0) p → Calls Try.prog 29 #[.slice A0 n0 c0] w (GivesS w R)))
    (I : Hid (p.length + tot p ≤ 1048576 → ∀ (w : World) (A0 : Option Addr) (n0 c0 B0 : Nat), IntsS w B0 (.slice A0 n0 c0) p → Calls Try.prog 30 #[.slice A0 n0 c0] w (GivesS w R))) :
    Calls Try.prog 8 #[.slice Ap np cp] w fun e w' => e = .returned (.bool true) ∧ Below w.heap.size w w' := by
  by_cases hnp : np + tot p ≤ 1048576
  rotate_left
  · clear S I
    have hzp : szR (1048576) np p = -1 := by unfold szR; rw [if_pos (by omega)]
    have hb : Below w.heap.size w w := Below.refl _ _
    go_enter Try.func8, Try.ntmps8
    go_wp2_with fail
    refine (sziss_any Ap np cp _ p (1048576) (by omega) w hrp hmp (fun z hz => (hsp z hz).1)).mono ?_
    rintro e wx ⟨rfl, rfl⟩
    rw [hzp]
    go_wp2
    go_ret
    exact ⟨rfl, hb⟩
  obtain ⟨r_p, hzp, hl0p, hl1p, hlnp⟩ : ∃ r, szR (1048576) np p = r ∧ 0 ≤ r ∧ r ≤ 1048576 ∧ ¬ r < 0 := ⟨_, rfl, by unfold szR; rw [if_neg (by omega)]; omega, by unfold szR; rw [if_neg (by omega)]; omega, by unfold szR; rw [if_neg (by omega)]; omega⟩
  have hb : Below w.heap.size w w := Below.refl _ _
  go_enter Try.func8, Try.ntmps8
  go_wp2_with fail
  refine (sziss_any Ap np cp _ p (1048576) (by omega) w hrp hmp (fun z hz => (hsp z hz).1)).mono ?_
  rintro e wx ⟨rfl, rfl⟩
  rw [hzp]
  go_wp2_with fail
  refine (toiss_any Ap np cp _ p _ (hrp.below hb) hb.size (by omega) (fun z hz => (small_of_tot (by have := hrp.len; omega) hsp z hz).1)).mono ?_
  rintro e w1 ⟨g_tp, rfl, o_tp, d⟩
  have z1 := d.size
  replace hb := below_after hb d
  clear d
  replace o_tp := o_tp.sealed
  go_wp2_with fail
  refine (unhide S (by have := hrp.len; omega) _ _ _ _ _ (o_tp.opened)).mono ?_
  rintro e w2 ⟨rfl, d⟩
  have z2 := d.size
  replace o_tp := o_tp.below d
  replace hb := below_after hb d
  clear d
  clear o_tp
  go_wp2_with fail
  refine (toiss_any Ap np cp _ p _ (hrp.below hb) hb.size (by omega) (fun z hz => (small_of_tot (by have := hrp.len; omega) hsp z hz).1)).mono ?_
  rintro e w3 ⟨g_xp, rfl, o_xp, d⟩
  have z3 := d.size
  replace hb := below_after hb d
  clear d
  replace o_xp := o_xp.sealed
  go_wp2_with fail
  refine (unhide I (by have := hrp.len; omega) _ _ _ _ _ (o_xp.opened)).mono ?_
  rintro e w4 ⟨rfl, d⟩
  have z4 := d.size
  replace o_xp := o_xp.below d
  replace hb := below_after hb d
  clear d
  go_wp2_with fail
  refine (toiss_any Ap np cp _ p _ (hrp.below hb) hb.size (by omega) (fun z hz => (small_of_tot (by have := hrp.len; omega) hsp z hz).1)).mono ?_
  rintro e w5 ⟨g_yp, rfl, o_yp, d⟩
  have z5 := d.size
  replace o_xp := o_xp.below d
  replace hb := below_after hb d
  clear d
  replace o_yp := o_yp.sealed
  go_wp2_with fail
  refine (eqss_any _ _ _ _ _ _ _ _ _ _ o_xp.opened o_yp.opened (by omega) (by omega)).mono ?_
  rintro e w6 ⟨rfl, d0⟩
  have d := d0.below w5.heap.size
  clear d0
  have z6 := d.size
  replace o_xp := o_xp.below d
  replace o_yp := o_yp.below d
  replace hb := below_after hb d
  clear d
  clear o_yp
  go_wp2
  go_ret
  exact ⟨rfl, hb⟩

theorem params_ok : ∀ t ∈ (#[22] : Array TypeId).toList, Try.prog.readableRec t = true ∧ t < Try.prog.types.size := by
  intro t ht
  simp only [List.mem_cons, List.not_mem_nil, or_false] at ht
  subst ht
  exact ⟨by kernel_rfl, of_decide_eq_true (by kernel_rfl)⟩

set_option maxRecDepth 100000 in
/-- WHAT THE WALK GIVES, FOR EVERY ARGUMENT. -/
theorem contract (H : Type) (enc : TypeId × Value → H) (W : World) (base : Nat) (args : Array Value) (ds gs : List (DataW H)) (before : List MemPlace)
    (hval : ∀ (j : Nat) t v, Try.f8.params[j]? = some t → args[j]? = some v → Value.okWide Try.prog W .any base t v)
    (hW : DataW.Whole enc Try.prog Try.f8.params.toList Rows.fnExactBasisTextSpec.vars false W args.toList ds gs before) :
    Calls Try.prog 8 args W fun e W' => ∃ v, e = .returned v ∧ Rows.fnExactBasisTextSpec.post enc Try.prog Try.f8 false true false false W args v W' := by
  have hW' := hW
  obtain ⟨p, q, hA0, hV, rfl, hfz, hnd⟩ := hW
  have hA : DataW.TrodAll enc Try.prog W 0 (fun _ => true) true Try.f8.params.toList args.toList ds p := hA0
  rw [Try.params8] at hA hval
  obtain ⟨v0, d0, rfl, rfl, h0⟩ := trodAll_one hA
  obtain ⟨rfl, rfl⟩ := trodVars_none hV
  obtain ⟨Ap, np, cp, p, rfl, hrp, hnp, hsp⟩ := open_intss_reads Try.underlying22 Try.underlying29 Try.underlying3 cellsRow cellsInt (hval 0 22 v0 rfl rfl) h0 (fun x hx => by simpa using hW'.lt x (by simp [hx]))
  refine (walk W Ap np cp p hrp hnp hsp (btext p) (hide (fun hp w A n c B h => sbtx_any A n c B p w h (by have := h.len; omega) (small_of_tot hp hsp))) (hide (fun hp w A n c B h => ibtx_any A n c B p w h (by have := h.len; omega) (small_of_tot hp hsp)))).mono fun e W' ⟨he, hb⟩ => ?_
  subst he
  exact ⟨_, rfl, law_end laidOut (by rw [Try.params8]; exact params_ok) Try.underlying4 rfl rfl hW' rfl hb⟩

set_option maxRecDepth 100000 in
theorem lifted (os : Os) (started : os.Started) (H : Type) (enc : TypeId × Value → H) :
    ReturnsInHanded {} Try.checked os 8 .any (Rows.fnExactBasisTextSpec.pre6 enc Try.prog Try.f8 Rows.fnExactBasisTextRow.domain false) (Rows.fnExactBasisTextSpec.post enc Try.prog Try.f8 false true false false) := by
  refine returnsInHanded_of_change (C := Try.checked) own started (by kernel_rfl) Try.func8
    (ChangeSpec.witness6 (enc := enc) (C := Try.checked) false ⟨#[], #[.slice none 0 0], []⟩ 8 (by kernel_rfl) (by kernel_rfl) (by kernel_rfl) (by kernel_rfl)) ?_
  intro W base args ds gs before hval hW _ _
  exact contract H enc W base args ds gs before hval hW

theorem proved : Rows.FnExactBasisTextSaid :=
  OpenClaim.holds_of_wide 8 Try.f8 rfl rfl rfl rfl rfl rfl rfl ⟨rfl, rfl, rfl, rfl, rfl⟩ rfl rfl rfl rfl rfl (by kernel_rfl) Try.func8 (by kernel_rfl)
    (of_decide_eq_true (by kernel_rfl)) (by unfold Func.isWrapper; first | (rw [if_pos (by decide +kernel)]; kernel_rfl) | (rw [if_neg (by decide +kernel)]; exact ⟨rfl, rfl⟩))
    (fun os started H enc _ => lifted os started H enc)
end Go.Proofs.Ytplchjeamooliaa.fnExactBasisText
