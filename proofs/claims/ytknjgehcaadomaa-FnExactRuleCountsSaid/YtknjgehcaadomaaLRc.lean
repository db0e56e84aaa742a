
/-
  For every list of lists of integers and every two integers the law FnExactRuleCounts answers true and leaves its arguments as they were.
  Conditions: none beyond the row's own (what is read lies within the row's reach).
-/
import Derived.Test.YtknjgehcaadomaaRuleS
import Derived.Test.YtknjgehcaadomaaRuleI
import Derived.Test.YtknjgehcaadomaaIntsA
import Derived.Test.YtknjgehcaadomaaMarkS
import Derived.Test.YtknjgehcaadomaaInts
import Derived.Test.YtknjgehcaadomaaEnd
namespace Go.Proofs.Ytknjgehcaadomaa.fnExactRuleCounts
set_option maxRecDepth 100000
open Go.ChangeShapes Go.WideShapes Go.ChangeAt Go.RowKit

set_option maxRecDepth 100000 in
set_option maxHeartbeats 1600000 in
theorem walk (w : World) (Ap : Option Addr) (np cp : Nat) (p : List (List Int)) (hrp : ReadsS w w.heap.size Ap np p) (hmp : np ≤ maxLen) (hsp : ∀ z ∈ p, z.length ≤ maxLen ∧ Small z) (x : Int) (_hx : -9223372036854775808 ≤ x ∧ x ≤ 9223372036854775807) (m : Int) (_hm : -9223372036854775808 ≤ m ∧ m ≤ 9223372036854775807) (R : List Int) (hR : p.length + tot p ≤ 1048576 → R.length ≤ 1048576)
    (S : Hid (p.length + tot p ≤ 1048576 → ∀ (w : World) (A0 : Option Addr) (n0 c0 B0 : Nat), IntsS w B0 (.slice A0 n0 c0) p → Calls Try.prog 5 #[.slice A0 n0 c0, .int .i64 x, .int .i64 m] w (GivesI w R)))
    (I : Hid (p.length + tot p ≤ 1048576 → ∀ (w : World) (A0 : Option Addr) (n0 c0 B0 : Nat), IntsS w B0 (.slice A0 n0 c0) p → Calls Try.prog 7 #[.slice A0 n0 c0, .int .i64 x, .int .i64 m] w (GivesI w R))) :
    Calls Try.prog 3 #[.slice Ap np cp, .int .i64 x, .int .i64 m] w fun e w' => e = .returned (.bool true) ∧ Below w.heap.size w w' := by
  by_cases hnp : np + tot p ≤ 1048576
  rotate_left
  · clear S I
    have hzp : szR (1048576) np p = -1 := by unfold szR; rw [if_pos (by omega)]
    have hb : Below w.heap.size w w := Below.refl _ _
    go_enter Try.func3, Try.ntmps3
    go_wp2_with fail
    refine (sziss_any Ap np cp _ p (1048576) (by omega) w hrp hmp (fun z hz => (hsp z hz).1)).mono ?_
    rintro e wx ⟨rfl, rfl⟩
    rw [hzp]
    go_wp2
    go_ret
    exact ⟨rfl, hb⟩
  obtain ⟨r_p, hzp, hl0p, hl1p, hlnp⟩ : ∃ r, szR (1048576) np p = r ∧ 0 ≤ r ∧ r ≤ 1048576 ∧ ¬ r < 0 := ⟨_, rfl, by unfold szR; rw [if_neg (by omega)]; omega, by unfold szR; rw [if_neg (by omega)]; omega, by unfold szR; rw [if_neg (by omega)]; omega⟩
  replace hR := hR (by have := hrp.len; omega)
  have hb : Below w.heap.size w w := Below.refl _ _
  go_enter Try.func3, Try.ntmps3
  go_wp2_with fail
  refine (sziss_any Ap np cp _ p (1048576) (by omega) w hrp hmp (fun z hz => (hsp z hz).1)).mono ?_
  rintro e wx ⟨rfl, rfl⟩
  rw [hzp]
  go_wp2_with fail
  refine (toiss_any Ap np cp _ p _ (hrp.below hb) hb.size (by omega) (fun z hz => (small_of_tot (by have := hrp.len; omega) hsp z hz).1)).mono ?_
  rintro e w1 ⟨g_tp, rfl, o_tp, d⟩
  have z1 := d.size
  replace hb := below_after hb d
  clear d
  replace o_tp := o_tp.sealed
  go_wp2_with fail
  refine (unhide S (by have := hrp.len; omega) _ _ _ _ _ (o_tp.opened)).mono ?_
  rintro e w2 ⟨A_w, c_w, rfl, o_w, d⟩
  have z2 := d.size
  replace o_tp := o_tp.below d
  replace hb := below_after hb d
  clear d
  have s_w := o_w.since
  have u_w := o_w.until_
  clear o_tp
  go_wp2_with fail
  refine (toiss_any Ap np cp _ p _ (hrp.below hb) hb.size (by omega) (fun z hz => (small_of_tot (by have := hrp.len; omega) hsp z hz).1)).mono ?_
  rintro e w3 ⟨g_xp, rfl, o_xp, d⟩
  have z3 := d.size
  replace o_w := o_w.below d
  replace hb := below_after hb d
  clear d
  replace o_xp := o_xp.sealed
  go_wp2_with fail
  refine (unhide I (by have := hrp.len; omega) _ _ _ _ _ (o_xp.opened)).mono ?_
  rintro e w4 ⟨A_g, c_g, rfl, o_g, d⟩
  have z4 := d.size
  replace o_w := o_w.below d
  replace o_xp := o_xp.below d
  replace hb := below_after hb d
  clear d
  have s_g := o_g.since
  have u_g := o_g.until_
  go_wp2_with fail
  refine (eqi_any _ _ _ _ _ _ _ _ _ _ o_g.reads o_w.reads (by omega)).mono ?_
  rintro e w5 ⟨rfl, d0⟩
  have d := d0.below w4.heap.size
  clear d0
  have z5 := d.size
  replace o_w := o_w.below d
  replace o_xp := o_xp.below d
  replace o_g := o_g.below d
  replace hb := below_after hb d
  clear d
  go_wp2_with fail
  refine (toiss_any Ap np cp _ p _ (hrp.below hb) hb.size (by omega) (fun z hz => (small_of_tot (by have := hrp.len; omega) hsp z hz).1)).mono ?_
  rintro e w6 ⟨g_yp, rfl, o_yp, d⟩
  have z6 := d.size
  replace o_w := o_w.below d
  replace o_xp := o_xp.below d
  replace o_g := o_g.below d
  replace hb := below_after hb d
  clear d
  replace o_yp := o_yp.sealed
  go_wp2_with fail
  refine (eqss_any _ _ _ _ _ _ _ _ _ _ o_xp.opened o_yp.opened (by omega) (by omega)).mono ?_
  rintro e w7 ⟨rfl, d0⟩
  have d := d0.below w6.heap.size
  clear d0
  have z7 := d.size
  replace o_w := o_w.below d
  replace o_xp := o_xp.below d
  replace o_g := o_g.below d
  replace o_yp := o_yp.below d
  replace hb := below_after hb d
  clear d
  clear o_yp
  go_wp2_with fail
  refine (markss_in _ _ _ _ _ 1 _ (by omega) _ _ o_xp (by omega) (by omega)).mono ?_
  rintro e w8 ⟨rfl, m_x, d⟩
  clear o_xp
  have o_xp := m_x
  clear m_x
  have z8 := d.size
  replace o_w := o_w.turnLow u_w d (by omega)
  replace o_g := o_g.turnHigh d (by omega)
  replace hb := hb.trans ((d.below (by omega)).mono (by omega))
  clear d
  clear o_xp
  go_wp2_with fail
  refine (eqi_any _ _ _ _ _ _ _ _ _ _ o_g.reads o_w.reads (by omega)).mono ?_
  rintro e w9 ⟨rfl, d0⟩
  have d := d0.below w8.heap.size
  clear d0
  have z9 := d.size
  replace o_w := o_w.below d
  replace o_g := o_g.below d
  replace hb := below_after hb d
  clear d
  go_wp2_with fail
  refine (marki_at _ _ _ _ 1 _ (by omega) _ _ o_g (by omega)).mono ?_
  rintro e w10 ⟨rfl, m_x, d⟩
  clear o_g
  have o_g := m_x
  clear m_x
  have z10 := d.size
  replace o_w := o_w.kept d (apart u_w s_g (by omega))
  replace hb := below_row hb d hb.size (s_g.mono (by omega))
  clear d
  go_wp2_with fail
  refine (heldi_at _ _ _ _ 1 _ (by omega) _ o_g.reads (by omega)).mono ?_
  rintro e wx ⟨rfl, rfl⟩
  go_wp2_with fail
  refine (toiss_any Ap np cp _ p _ (hrp.below hb) hb.size (by omega) (fun z hz => (small_of_tot (by have := hrp.len; omega) hsp z hz).1)).mono ?_
  rintro e w11 ⟨g_tp, rfl, o_tp, d⟩
  have z11 := d.size
  replace o_w := o_w.below d
  replace o_g := o_g.below d
  replace hb := below_after hb d
  clear d
  replace o_tp := o_tp.sealed
  go_wp2_with fail
  refine (unhide I (by have := hrp.len; omega) _ _ _ _ _ (o_tp.opened)).mono ?_
  rintro e w12 ⟨A_h, c_h, rfl, o_h, d⟩
  have z12 := d.size
  replace o_w := o_w.below d
  replace o_g := o_g.below d
  replace o_tp := o_tp.below d
  replace hb := below_after hb d
  clear d
  have s_h := o_h.since
  have u_h := o_h.until_
  go_wp2_with fail
  refine (eqi_any _ _ _ _ _ _ _ _ _ _ o_h.reads o_w.reads (by omega)).mono ?_
  rintro e w13 ⟨rfl, d0⟩
  have d := d0.below w12.heap.size
  clear d0
  have z13 := d.size
  replace o_w := o_w.below d
  replace o_g := o_g.below d
  replace o_tp := o_tp.below d
  replace o_h := o_h.below d
  replace hb := below_after hb d
  clear d
  go_wp2_with fail
  refine (heldi_at _ _ _ _ 1 _ (by omega) _ o_g.reads (by omega)).mono ?_
  rintro e wx ⟨rfl, rfl⟩
  go_wp2
  go_ret
  exact ⟨rfl, hb⟩

theorem params_ok : ∀ t ∈ (#[22, 3, 3] : Array TypeId).toList, Try.prog.readableRec t = true ∧ t < Try.prog.types.size := by
  intro t ht
  simp only [List.mem_cons, List.not_mem_nil, or_false] at ht
  rcases ht with rfl | rfl | rfl
  all_goals exact ⟨by kernel_rfl, of_decide_eq_true (by kernel_rfl)⟩

set_option maxRecDepth 100000 in
/-- WHAT THE WALK GIVES, FOR EVERY ARGUMENT. -/
theorem contract (H : Type) (enc : TypeId × Value → H) (W : World) (base : Nat) (args : Array Value) (ds gs : List (DataW H)) (before : List MemPlace)
    (hval : ∀ (j : Nat) t v, Try.f3.params[j]? = some t → args[j]? = some v → Value.okWide Try.prog W .any base t v)
    (hW : DataW.Whole enc Try.prog Try.f3.params.toList Rows.fnExactRuleCountsSpec.vars false W args.toList ds gs before) :
    Calls Try.prog 3 args W fun e W' => ∃ v, e = .returned v ∧ Rows.fnExactRuleCountsSpec.post enc Try.prog Try.f3 false true false false W args v W' := by
  have hW' := hW
  obtain ⟨p, q, hA0, hV, rfl, hfz, hnd⟩ := hW
  have hA : DataW.TrodAll enc Try.prog W 0 (fun _ => true) true Try.f3.params.toList args.toList ds p := hA0
  rw [Try.params3] at hA hval
  obtain ⟨v0, vs0, d0, ds0, p0, q0, ha0, rfl, rfl, h0, r0⟩ := trodAll_cons hA
  obtain ⟨v1, vs1, d1, ds1, p1, q1, ha1, rfl, rfl, h1, r1⟩ := trodAll_cons r0
  obtain ⟨v2, vs2, d2, ds2, p2, q2, ha2, rfl, rfl, h2, r2⟩ := trodAll_cons r1
  obtain ⟨hz, rfl, rfl⟩ := trodAll_nil r2
  obtain rfl : args = #[v0, v1, v2] := by cases args; simp_all
  obtain ⟨rfl, rfl⟩ := trodVars_none hV
  obtain ⟨m, rfl, rfl, rfl, wm⟩ := open_int Try.underlying3 (hval 2 3 v2 rfl rfl) h2
  have hm : -9223372036854775808 ≤ m ∧ m ≤ 9223372036854775807 := by simpa [Lit.wf, IntKind.min, IntKind.max, IntKind.signed, IntKind.bits] using wm
  obtain ⟨x, rfl, rfl, rfl, wx⟩ := open_int Try.underlying3 (hval 1 3 v1 rfl rfl) h1
  have hx : -9223372036854775808 ≤ x ∧ x ≤ 9223372036854775807 := by simpa [Lit.wf, IntKind.min, IntKind.max, IntKind.signed, IntKind.bits] using wx
  obtain ⟨Ap, np, cp, p, rfl, hrp, hnp, hsp⟩ := open_intss_reads Try.underlying22 Try.underlying24 Try.underlying3 cellsRow cellsInt (hval 0 22 v0 rfl rfl) h0 (fun x hx => by simpa using hW'.lt x (by simp [hx]))
  refine (walk W Ap np cp p hrp hnp hsp x hx m hm (rcR p x m) (fun _ => by have := rcR_le p x m; omega) (hide (fun hp w A n c B h => src15_any A n c B p x m hx hm w h (by have := h.len; omega) (small_of_tot hp hsp))) (hide (fun hp w A n c B h => ircnt_any A n c B p x m hx hm w h (by have := h.len; omega) (small_of_tot hp hsp)))).mono fun e W' ⟨he, hb⟩ => ?_
  subst he
  exact ⟨_, rfl, law_end laidOut (by rw [Try.params3]; exact params_ok) Try.underlying4 rfl rfl hW' rfl hb⟩

set_option maxRecDepth 100000 in
theorem lifted (os : Os) (started : os.Started) (H : Type) (enc : TypeId × Value → H) :
    ReturnsInHanded {} Try.checked os 3 .any (Rows.fnExactRuleCountsSpec.pre6 enc Try.prog Try.f3 Rows.fnExactRuleCountsRow.domain false) (Rows.fnExactRuleCountsSpec.post enc Try.prog Try.f3 false true false false) := by
  refine returnsInHanded_of_change (C := Try.checked) own started (by kernel_rfl) Try.func3
    (ChangeSpec.witness6 (enc := enc) (C := Try.checked) false ⟨#[], #[.slice none 0 0, .int .i64 0, .int .i64 0], []⟩ 8 (by kernel_rfl) (by kernel_rfl) (by kernel_rfl) (by kernel_rfl)) ?_
  intro W base args ds gs before hval hW _ _
  exact contract H enc W base args ds gs before hval hW

theorem proved : Rows.FnExactRuleCountsSaid :=
  OpenClaim.holds_of_wide 3 Try.f3 rfl rfl rfl rfl rfl rfl rfl ⟨rfl, rfl, rfl, rfl, rfl⟩ rfl rfl rfl rfl rfl (by kernel_rfl) Try.func3 (by kernel_rfl)
    (of_decide_eq_true (by kernel_rfl)) (by unfold Func.isWrapper; first | (rw [if_pos (by decide +kernel)]; kernel_rfl) | (rw [if_neg (by decide +kernel)]; exact ⟨rfl, rfl⟩))
    (fun os started H enc _ => lifted os started H enc)
end Go.Proofs.Ytknjgehcaadomaa.fnExactRuleCounts
