
/-
  For every list of integers and every list of lists of integers the law FnExactInflateBy answers true and leaves its arguments as they were.
  Conditions: none beyond the row's own (what is read lies within the row's reach).
-/
import Derived.Test.YtoiflglccbemeaaInflS
import Derived.Test.YtoiflglccbemeaaIntsA
import Derived.Test.YtoiflglccbemeaaMarkS
import Derived.Test.YtoiflglccbemeaaInts
import Derived.Test.YtoiflglccbemeaaEnd
namespace Go.Proofs.Ytoiflglccbemeaa.fnExactInflateBy
set_option maxRecDepth 100000
open Go.ChangeShapes Go.WideShapes Go.ChangeAt Go.RowKit

set_option maxRecDepth 100000 in
set_option maxHeartbeats 1600000 in
theorem walk (w : World) (Ap : Option Addr) (np cp : Nat) (p : List Int) (hrp : Reads w w.heap.size Ap np (i64s p)) (hmp : np ≤ maxLen) (hsp : Small p) (Al : Option Addr) (nl cl : Nat) (l : List (List Int)) (hrl : ReadsS w w.heap.size Al nl l) (hml : nl ≤ maxLen) (hsl : ∀ z ∈ l, z.length ≤ maxLen ∧ Small z) (R : List Int) (ok : Bool) (hR : l.length + tot l ≤ 1048576 → R.length ≤ 1048576)
    (S : Hid (l.length + tot l ≤ 1048576 → ∀ (w : World) (A0 : Option Addr) (n0 c0 B0 : Nat) (A1 : Option Addr) (n1 c1 B1 : Nat), Arg w B0 A0 n0 c0 p → IntsS w B1 (.slice A1 n1 c1) l → Calls Try.prog 18 #[.slice A0 n0 c0, .slice A1 n1 c1] w (GivesIB w R ok)))
    (I : Hid (l.length + tot l ≤ 1048576 → ∀ (w : World) (A0 : Option Addr) (n0 c0 B0 : Nat) (A1 : Option Addr) (n1 c1 B1 : Nat), Arg w B0 A0 n0 c0 p → IntsS w B1 (.slice A1 n1 c1) l → Calls Try.prog 17 #[.slice A0 n0 c0, .slice A1 n1 c1] w (GivesIB w R ok))) :
    Calls Try.prog 7 #[.slice Ap np cp, .slice Al nl cl] w fun e w' => e = .returned (.bool true) ∧ Below w.heap.size w w' := by
  unfold maxLen at hmp
  by_cases hnp : np ≤ 1048576
  rotate_left
  · have hbig : 1048576 < np := by omega
    clear S I
    go_enter Try.func7, Try.ntmps7
    go_wp2
    go_ret
    exact ⟨rfl, Below.refl _ _⟩
  by_cases hnl : nl + tot l ≤ 1048576
  rotate_left
  · clear S I
    have hzl : szR (1048576) nl l = -1 := by unfold szR; rw [if_pos (by omega)]
    have hb : Below w.heap.size w w := Below.refl _ _
    go_enter Try.func7, Try.ntmps7
    go_wp2_with fail
    refine (sziss_any Al nl cl _ l (1048576) (by omega) w hrl hml (fun z hz => (hsl z hz).1)).mono ?_
    rintro e wx ⟨rfl, rfl⟩
    rw [hzl]
    go_wp2
    go_ret
    exact ⟨rfl, hb⟩
  obtain ⟨r_l, hzl, hl0l, hl1l, hlnl⟩ : ∃ r, szR (1048576) nl l = r ∧ 0 ≤ r ∧ r ≤ 1048576 ∧ ¬ r < 0 := ⟨_, rfl, by unfold szR; rw [if_neg (by omega)]; omega, by unfold szR; rw [if_neg (by omega)]; omega, by unfold szR; rw [if_neg (by omega)]; omega⟩
  replace hR := hR (by have := hrl.len; omega)
  cases ok
  all_goals
    have hb : Below w.heap.size w w := Below.refl _ _
    go_enter Try.func7, Try.ntmps7
    go_wp2_with fail
    refine (sziss_any Al nl cl _ l (1048576) (by omega) w hrl hml (fun z hz => (hsl z hz).1)).mono ?_
    rintro e wx ⟨rfl, rfl⟩
    rw [hzl]
    go_wp2_with fail
    refine (toi_any Ap np cp _ p _ (hrp.below hb) hb.size (by omega)).mono ?_
    rintro e w1 ⟨rfl, o_tp, d⟩
    have z1 := d.size
    replace hb := below_after hb d
    clear d
    have s_tp := o_tp.since
    have u_tp := o_tp.until_
    go_wp2_with fail
    refine (toiss_any Al nl cl _ l _ (hrl.below hb) hb.size (by omega) (fun z hz => (small_of_tot (by have := hrl.len; omega) hsl z hz).1)).mono ?_
    rintro e w2 ⟨g_tl, rfl, o_tl, d⟩
    have z2 := d.size
    replace o_tp := o_tp.below d
    replace hb := below_after hb d
    clear d
    replace o_tl := o_tl.sealed
    go_wp2_with fail
    refine (unhide S (by have := hrl.len; omega) _ _ _ _ _ _ _ _ _ (o_tp.arg hnp (Nat.le_refl _) hsp) (o_tl.opened)).mono ?_
    rintro e w3 ⟨A_w, c_w, rfl, o_w, d⟩
    have z3 := d.size
    replace o_tp := o_tp.below d
    replace o_tl := o_tl.below d
    replace hb := below_after hb d
    clear d
    have s_w := o_w.since
    have u_w := o_w.until_
    clear o_tp s_tp u_tp
    clear o_tl
    go_wp2_with fail
    refine (toi_any Ap np cp _ p _ (hrp.below hb) hb.size (by omega)).mono ?_
    rintro e w4 ⟨rfl, o_xp, d⟩
    have z4 := d.size
    replace o_w := o_w.below d
    replace hb := below_after hb d
    clear d
    have s_xp := o_xp.since
    have u_xp := o_xp.until_
    go_wp2_with fail
    refine (toiss_any Al nl cl _ l _ (hrl.below hb) hb.size (by omega) (fun z hz => (small_of_tot (by have := hrl.len; omega) hsl z hz).1)).mono ?_
    rintro e w5 ⟨g_xl, rfl, o_xl, d⟩
    have z5 := d.size
    replace o_w := o_w.below d
    replace o_xp := o_xp.below d
    replace hb := below_after hb d
    clear d
    replace o_xl := o_xl.sealed
    go_wp2_with fail
    refine (unhide I (by have := hrl.len; omega) _ _ _ _ _ _ _ _ _ (o_xp.arg hnp (Nat.le_refl _) hsp) (o_xl.opened)).mono ?_
    rintro e w6 ⟨A_g, c_g, rfl, o_g, d⟩
    have z6 := d.size
    replace o_w := o_w.below d
    replace o_xp := o_xp.below d
    replace o_xl := o_xl.below d
    replace hb := below_after hb d
    clear d
    have s_g := o_g.since
    have u_g := o_g.until_
    go_wp2_with fail
    refine (eqi_any _ _ _ _ _ _ _ _ _ _ o_g.reads o_w.reads (by omega)).mono ?_
    rintro e w7 ⟨rfl, d0⟩
    have d := d0.below w6.heap.size
    clear d0
    have z7 := d.size
    replace o_w := o_w.below d
    replace o_xp := o_xp.below d
    replace o_xl := o_xl.below d
    replace o_g := o_g.below d
    replace hb := below_after hb d
    clear d
    go_wp2_with fail
    refine (toi_any Ap np cp _ p _ (hrp.below hb) hb.size (by omega)).mono ?_
    rintro e w8 ⟨rfl, o_yp, d⟩
    have z8 := d.size
    replace o_w := o_w.below d
    replace o_xp := o_xp.below d
    replace o_xl := o_xl.below d
    replace o_g := o_g.below d
    replace hb := below_after hb d
    clear d
    have s_yp := o_yp.since
    have u_yp := o_yp.until_
    go_wp2_with fail
    refine (eqi_any _ _ _ _ _ _ _ _ _ _ o_xp.reads o_yp.reads (by omega)).mono ?_
    rintro e w9 ⟨rfl, d0⟩
    have d := d0.below w8.heap.size
    clear d0
    have z9 := d.size
    replace o_w := o_w.below d
    replace o_xp := o_xp.below d
    replace o_xl := o_xl.below d
    replace o_g := o_g.below d
    replace o_yp := o_yp.below d
    replace hb := below_after hb d
    clear d
    clear o_yp s_yp u_yp
    go_wp2_with fail
    refine (toiss_any Al nl cl _ l _ (hrl.below hb) hb.size (by omega) (fun z hz => (small_of_tot (by have := hrl.len; omega) hsl z hz).1)).mono ?_
    rintro e w10 ⟨g_yl, rfl, o_yl, d⟩
    have z10 := d.size
    replace o_w := o_w.below d
    replace o_xp := o_xp.below d
    replace o_xl := o_xl.below d
    replace o_g := o_g.below d
    replace hb := below_after hb d
    clear d
    replace o_yl := o_yl.sealed
    go_wp2_with fail
    refine (eqss_any _ _ _ _ _ _ _ _ _ _ o_xl.opened o_yl.opened (by omega) (by omega)).mono ?_
    rintro e w11 ⟨rfl, d0⟩
    have d := d0.below w10.heap.size
    clear d0
    have z11 := d.size
    replace o_w := o_w.below d
    replace o_xp := o_xp.below d
    replace o_xl := o_xl.below d
    replace o_g := o_g.below d
    replace o_yl := o_yl.below d
    replace hb := below_after hb d
    clear d
    clear o_yl
    go_wp2_with fail
    refine (marki_at _ _ _ _ 1 _ (by omega) _ _ o_xp (by omega)).mono ?_
    rintro e w12 ⟨rfl, m_x, d⟩
    clear o_xp
    have o_xp := m_x
    clear m_x
    have z12 := d.size
    replace o_w := o_w.kept d (apart u_w s_xp (by omega))
    replace o_xl := o_xl.after d u_xp (by omega)
    replace o_g := o_g.kept d (apart' s_g u_xp (by omega))
    replace hb := below_row hb d hb.size (s_xp.mono (by omega))
    clear d
    go_wp2_with fail
    refine (markss_in _ _ _ _ _ (1 + np) _ (by omega) _ _ o_xl (by omega) (by omega)).mono ?_
    rintro e w13 ⟨rfl, m_x, d⟩
    clear o_xl
    have o_xl := m_x
    clear m_x
    have z13 := d.size
    replace o_w := o_w.turnLow u_w d (by omega)
    replace o_xp := o_xp.turnLow u_xp d (by omega)
    replace o_g := o_g.turnHigh d (by omega)
    replace hb := hb.trans ((d.below (by omega)).mono (by omega))
    clear d
    clear o_xp s_xp u_xp
    clear o_xl
    go_wp2_with fail
    refine (eqi_any _ _ _ _ _ _ _ _ _ _ o_g.reads o_w.reads (by omega)).mono ?_
    rintro e w14 ⟨rfl, d0⟩
    have d := d0.below w13.heap.size
    clear d0
    have z14 := d.size
    replace o_w := o_w.below d
    replace o_g := o_g.below d
    replace hb := below_after hb d
    clear d
    go_wp2_with fail
    refine (marki_at _ _ _ _ 1 _ (by omega) _ _ o_g (by omega)).mono ?_
    rintro e w15 ⟨rfl, m_x, d⟩
    clear o_g
    have o_g := m_x
    clear m_x
    have z15 := d.size
    replace o_w := o_w.kept d (apart u_w s_g (by omega))
    replace hb := below_row hb d hb.size (s_g.mono (by omega))
    clear d
    go_wp2_with fail
    refine (heldi_at _ _ _ _ 1 _ (by omega) _ o_g.reads (by omega)).mono ?_
    rintro e wx ⟨rfl, rfl⟩
    go_wp2_with fail
    refine (toi_any Ap np cp _ p _ (hrp.below hb) hb.size (by omega)).mono ?_
    rintro e w16 ⟨rfl, o_tp, d⟩
    have z16 := d.size
    replace o_w := o_w.below d
    replace o_g := o_g.below d
    replace hb := below_after hb d
    clear d
    have s_tp := o_tp.since
    have u_tp := o_tp.until_
    go_wp2_with fail
    refine (toiss_any Al nl cl _ l _ (hrl.below hb) hb.size (by omega) (fun z hz => (small_of_tot (by have := hrl.len; omega) hsl z hz).1)).mono ?_
    rintro e w17 ⟨g_tl, rfl, o_tl, d⟩
    have z17 := d.size
    replace o_w := o_w.below d
    replace o_g := o_g.below d
    replace o_tp := o_tp.below d
    replace hb := below_after hb d
    clear d
    replace o_tl := o_tl.sealed
    go_wp2_with fail
    refine (unhide I (by have := hrl.len; omega) _ _ _ _ _ _ _ _ _ (o_tp.arg hnp (Nat.le_refl _) hsp) (o_tl.opened)).mono ?_
    rintro e w18 ⟨A_h, c_h, rfl, o_h, d⟩
    have z18 := d.size
    replace o_w := o_w.below d
    replace o_g := o_g.below d
    replace o_tp := o_tp.below d
    replace o_tl := o_tl.below d
    replace hb := below_after hb d
    clear d
    have s_h := o_h.since
    have u_h := o_h.until_
    go_wp2_with fail
    refine (eqi_any _ _ _ _ _ _ _ _ _ _ o_h.reads o_w.reads (by omega)).mono ?_
    rintro e w19 ⟨rfl, d0⟩
    have d := d0.below w18.heap.size
    clear d0
    have z19 := d.size
    replace o_w := o_w.below d
    replace o_g := o_g.below d
    replace o_tp := o_tp.below d
    replace o_tl := o_tl.below d
    replace o_h := o_h.below d
    replace hb := below_after hb d
    clear d
    go_wp2_with fail
    refine (heldi_at _ _ _ _ 1 _ (by omega) _ o_g.reads (by omega)).mono ?_
    rintro e wx ⟨rfl, rfl⟩
    go_wp2
    go_ret
    exact ⟨rfl, hb⟩

theorem params_ok : ∀ t ∈ (#[24, 30] : Array TypeId).toList, Try.prog.readableRec t = true ∧ t < Try.prog.types.size := by
  intro t ht
  simp only [List.mem_cons, List.not_mem_nil, or_false] at ht
  rcases ht with rfl | rfl
  all_goals exact ⟨by kernel_rfl, of_decide_eq_true (by kernel_rfl)⟩

set_option maxRecDepth 100000 in
/-- WHAT THE WALK GIVES, FOR EVERY ARGUMENT. -/
theorem contract (H : Type) (enc : TypeId × Value → H) (W : World) (base : Nat) (args : Array Value) (ds gs : List (DataW H)) (before : List MemPlace)
    (hval : ∀ (j : Nat) t v, Try.f7.params[j]? = some t → args[j]? = some v → Value.okWide Try.prog W .any base t v)
    (hW : DataW.Whole enc Try.prog Try.f7.params.toList Rows.fnExactInflateBySpec.vars false W args.toList ds gs before) :
    Calls Try.prog 7 args W fun e W' => ∃ v, e = .returned v ∧ Rows.fnExactInflateBySpec.post enc Try.prog Try.f7 false true false false W args v W' := by
  have hW' := hW
  obtain ⟨p, q, hA0, hV, rfl, hfz, hnd⟩ := hW
  have hA : DataW.TrodAll enc Try.prog W 0 (fun _ => true) true Try.f7.params.toList args.toList ds p := hA0
  rw [Try.params7] at hA hval
  obtain ⟨v0, v1, d0, d1, p0, p1, rfl, rfl, rfl, h0, h1⟩ := trodAll_two hA
  obtain ⟨rfl, rfl⟩ := trodVars_none hV
  obtain ⟨Al, nl, cl, l, rfl, hrl, hnl, hsl⟩ := open_intss_reads Try.underlying30 Try.underlying24 Try.underlying3 cellsRow cellsInt (hval 1 30 v1 rfl rfl) h1 (fun x hx => by simpa using hW'.lt x (by simp [hx]))
  obtain ⟨Ap, np, cp, p, rfl, hrp, hnp, wfp⟩ := open_ints_reads Try.underlying24 Try.underlying3 cellsInt (hval 0 24 v0 rfl rfl) h0 (fun x hx => by simpa using hW'.lt x (by simp [hx]))
  have hsp : Small p := small_of_wf wfp
  refine (walk W Ap np cp p hrp hnp hsp Al nl cl l hrl hnl hsl (inflR p l) (inflOK p l) (fun hl => by have h1 := inflR_le p l; omega) (hide (fun hl w A n c B A' n' c' B' h h' => sinfl_any A A' n c B n' c' B' p l w h h' (by have := h'.len; omega) (small_of_tot hl hsl))) (hide (fun hl w A n c B A' n' c' B' h h' => iinfl_any A A' n c B n' c' B' p l w h h' (by have := h'.len; omega) (small_of_tot hl hsl)))).mono fun e W' ⟨he, hb⟩ => ?_
  subst he
  exact ⟨_, rfl, law_end laidOut (by rw [Try.params7]; exact params_ok) Try.underlying4 rfl rfl hW' rfl hb⟩

set_option maxRecDepth 100000 in
theorem lifted (os : Os) (started : os.Started) (H : Type) (enc : TypeId × Value → H) :
    ReturnsInHanded {} Try.checked os 7 .any (Rows.fnExactInflateBySpec.pre6 enc Try.prog Try.f7 Rows.fnExactInflateByRow.domain false) (Rows.fnExactInflateBySpec.post enc Try.prog Try.f7 false true false false) := by
  refine returnsInHanded_of_change (C := Try.checked) own started (by kernel_rfl) Try.func7
    (ChangeSpec.witness6 (enc := enc) (C := Try.checked) false ⟨#[], #[.slice none 0 0, .slice none 0 0], []⟩ 8 (by kernel_rfl) (by kernel_rfl) (by kernel_rfl) (by kernel_rfl)) ?_
  intro W base args ds gs before hval hW _ _
  exact contract H enc W base args ds gs before hval hW

theorem proved : Rows.FnExactInflateBySaid :=
  OpenClaim.holds_of_wide 7 Try.f7 rfl rfl rfl rfl rfl rfl rfl ⟨rfl, rfl, rfl, rfl, rfl⟩ rfl rfl rfl rfl rfl (by kernel_rfl) Try.func7 (by kernel_rfl)
    (of_decide_eq_true (by kernel_rfl)) (by unfold Func.isWrapper; first | (rw [if_pos (by decide +kernel)]; kernel_rfl) | (rw [if_neg (by decide +kernel)]; exact ⟨rfl, rfl⟩))
    (fun os started H enc _ => lifted os started H enc)
end Go.Proofs.Ytoiflglccbemeaa.fnExactInflateBy
