/-
  For every string and every byte the law FnExactSplitByte answers true and leaves its arguments as they were.
  Conditions: the variables of Go's library that the row lists hold what the program's text lays (the card ties that).
-/
import Derived.Test.YtlepfeffbpoobaaDoorSplit
import Derived.Test.YtlepfeffbpoobaaDoorMarks
import Derived.Test.YtlepfeffbpoobaaDoorLaidS
namespace Go.Proofs.YtlepfeffbpoobaaDoor.fnExactSplitByte
open Go.ChangeShapes Go.WideShapes Go.ChangeAt Go.RowKit

theorem own_head {w : World} {base n : Nat} {v : Value} {xs : List Value} {e : TypeId} (h : w.ownsRow base e 1 v n xs) (hn : 0 < n) : ∃ g c, v = .slice (some ⟨g, 0, none⟩) n c := by
  rcases h.2 with ⟨_, h0⟩ | ⟨g, cap, cur, rfl, _⟩
  · omega
  · exact ⟨g, cap, rfl⟩

set_option maxRecDepth 100000 in
set_option maxHeartbeats 1600000 in
theorem walk (s : ByteArray) (hs : s.size ≤ maxLen) (b : Int) (hb0 : 0 ≤ b) (hb1 : b ≤ 255) (m : Int) (w : World) (hm : w.cell? ⟨3, 0, none⟩ = some (.int .i64 m)) :
    Calls Tryd.prog 8 #[.string s, .int .u8 b] w fun e w' => e = .returned (.bool true) ∧ Below w.heap.size w w' := by
  unfold maxLen at hs
  by_cases hbig : s.size ≤ 1048576
  · have H1 := hide (ssplit_any s hbig b hb0 hb1 w)
    have hmb : 3 < w.heap.size := World.block_lt_of_cell? w _ hm
    have H2 := hide (fun w' (hb : Below w.heap.size w w') => isplit_any s hbig b m w' ((hb.cell (p := ⟨_, 0, none⟩) hmb).trans hm))
    have hpl := pieces_le s (byteOf b)
    have hpn : 0 < (pieces s (byteOf b)).length := by rw [pieces_length]; omega
    obtain ⟨ps, hps⟩ : ∃ ps, ps = pieces s (byteOf b) := ⟨_, rfl⟩
    rw [← hps] at H1 hpl hpn
    simp only [← hps] at H2
    clear hps hm hs
    have hple : ps.length ≤ 1048577 := by omega
    clear hpl hmb
    go_enter Tryd.func8, Tryd.ntmps8
    go_wp2_with fail
    refine (unhide H1).mono ?_
    rintro e w1 ⟨v1, rfl, hown1, hb1⟩
    obtain ⟨A1, c1, rfl, hr1⟩ := Reads.of_own hown1
    clear hown1 H1
    go_wp2_with fail
    refine (unhide H2 w1 hb1).mono ?_
    rintro e w2 ⟨v2, rfl, hown2, hb2⟩
    have hw2 := below_after hb1 hb2
    have hr1 := hr1.below hb2
    obtain ⟨g, c2, rfl⟩ := own_head hown2 hpn
    have hgb : w1.heap.size ≤ g := (hown2.lt g rfl).1
    go_wp2_with fail
    refine (eqs_any _ _ _ _ _ _ _ _ ps ps _ (Reads.of_own_at hown2) hr1 (by unfold maxLen; omega) (by unfold maxLen; omega) rfl).mono ?_
    rintro e w3 ⟨rfl, hd3⟩
    have hw3 := below_after hw2 (hd3.below _)
    have hr3 := hr1.ofDrew hd3
    have hown3 := own_below hown2 (hd3.below _)
    have hz3 : w1.heap.size ≤ w3.heap.size := by have := hb2.size; have := hd3.size; omega
    clear hown2 hd3 hw2 hb2 hr1
    go_wp2_with fail
    refine (mark_any g _ c2 _ 1 _ _ hown3 (by omega) (by omega)).mono ?_
    rintro e w4 ⟨rfl, hown4, hg4⟩
    have hw4 := hw3.grown hg4 hw3.size (fun k hk => by injection hk with hk; have := hb1.size; omega)
    have hr4 := hr3.row hg4 hz3 hgb
    have hz4 : w1.heap.size ≤ w4.heap.size := Nat.le_trans hz3 hg4.size
    clear hown3 hg4 hr3 hw3
    go_wp2_with fail
    refine (held_any _ _ c2 _ 1 _ (Reads.of_own_at hown4) (Nat.le_refl _) (by omega) (by omega)).mono ?_
    rintro e w5 ⟨rfl, hb5⟩
    have hw5 := below_after hw4 hb5
    have hr5 := hr4.below (hb5.mono hz4)
    have hown5 := own_below hown4 hb5
    have hz5 : w1.heap.size ≤ w5.heap.size := Nat.le_trans hz4 hb5.size
    clear hown4 hb5 hr4 hw4
    go_wp2_with fail
    refine (unhide H2 w5 hw5).mono ?_
    rintro e w6 ⟨v6, rfl, hown6, hb6⟩
    have hw6 := below_after hw5 hb6
    have hr6 := hr5.below (hb6.mono hz5)
    have hmine6 := own_below hown5 hb6
    obtain ⟨A6, c6, rfl, hrh⟩ := Reads.of_own hown6
    clear hown5 hown6 hr5 hw5 H2
    go_wp2_with fail
    refine (eqs_any _ _ _ _ _ _ _ _ ps ps _ hrh hr6 (by unfold maxLen; omega) (by unfold maxLen; omega) rfl).mono ?_
    rintro e w7 ⟨rfl, hd7⟩
    have hw7 := below_after hw6 (hd7.below _)
    have hmine7 := own_below hmine6 (hd7.below _)
    clear hr6 hd7 hmine6 hrh hw6
    go_wp2_with fail
    refine (held_any _ _ c2 _ 1 _ (Reads.of_own_at hmine7) (Nat.le_refl _) (by omega) (by omega)).mono ?_
    rintro e w8 ⟨rfl, hb8⟩
    have hw8 := below_after hw7 hb8
    clear hmine7 hb8 hw7
    go_wp2
    go_ret
    exact ⟨rfl, hw8⟩
  · clear hm
    have hbig' : 1048576 < s.size := by omega
    go_enter Tryd.func8, Tryd.ntmps8
    go_wp2
    go_ret
    exact ⟨rfl, Below.refl _ _⟩

theorem params_ok : ∀ t ∈ (#[9, 5] : Array TypeId).toList, Tryd.prog.readableRec t = true ∧ t < Tryd.prog.types.size := by
  intro t ht
  simp only [List.mem_cons, List.not_mem_nil, or_false] at ht
  rcases ht with rfl | rfl
  all_goals exact ⟨by kernel_rfl, of_decide_eq_true (by kernel_rfl)⟩

set_option maxRecDepth 100000 in
/-- WHAT THE WALK GIVES, FOR EVERY ARGUMENT. -/
theorem contract (H : Type) (enc : TypeId × Value → H) (W : World) (base : Nat) (args : Array Value) (ds gs : List (DataW H)) (before : List MemPlace)
    (hval : ∀ (j : Nat) t v, Tryd.f8.params[j]? = some t → args[j]? = some v → Value.okWide Tryd.prog W .any base t v)
    (hW : DataW.Whole enc Tryd.prog Tryd.f8.params.toList Rows.fnExactSplitByteSpec.vars false W args.toList ds gs before) (hL : laidMetH Tryd.prog Rows.fnExactSplitByteRow.laid W) (hS : W.ShapedOpen Tryd.prog) :
    Calls Tryd.prog 8 args W fun e W' => ∃ v, e = .returned v ∧ Rows.fnExactSplitByteSpec.post enc Tryd.prog Tryd.f8 false true false false W args v W' := by
  have hW' := hW
  obtain ⟨p, q, hA0, hV, rfl, hfz, hnd⟩ := hW
  have hA : DataW.TrodAll enc Tryd.prog W 0 (fun _ => true) true Tryd.f8.params.toList args.toList ds p := hA0
  rw [Tryd.params8] at hA hval
  obtain ⟨v0, v1, d0, d1, p0, p1, rfl, rfl, rfl, h0, h1⟩ := trodAll_two hA
  obtain ⟨rfl, rfl⟩ := trodVars_none hV
  obtain ⟨b, rfl, rfl, rfl, wb⟩ := open_int Tryd.underlying5 (hval 1 5 v1 rfl rfl) h1
  have hb : 0 ≤ b ∧ b ≤ 255 := by simpa [Lit.wf, IntKind.min, IntKind.max, IntKind.signed, IntKind.bits] using wb
  obtain ⟨s, rfl, rfl, rfl, hs⟩ := Go.ChangeMaps.open_string Tryd.underlying9 (hval 0 9 v0 rfl rfl) h0
  have hL' : laidMet Tryd.prog Rows.fnExactSplitByteRow.laid W := hL
  refine (let ⟨m, hm⟩ := Tryd.laysM146.s1_3 W hS; walk s hs b hb.1 hb.2 m W hm).mono fun e W' ⟨he, hb⟩ => ?_
  subst he
  exact ⟨_, rfl, law_end laidOut (by rw [Tryd.params8]; exact params_ok) Tryd.underlying4 rfl rfl hW' rfl hb⟩

set_option maxRecDepth 100000 in
theorem laid_met (os : Os) : laidMet Tryd.prog Rows.fnExactSplitByteRow.laid ((laidWorldS os).forCall (fun _ _ => 0) ⟨#[], #[.string .empty, .int .u8 0], []⟩).memory :=
  laidMet_of_run' 8 (by kernel_rfl) (by kernel_rfl)
set_option maxRecDepth 100000 in
theorem reads (os : Os) {H : Type} (enc : TypeId × Value → H) : ∃ places, DataW.whole enc Tryd.prog ((laidWorldS os).forCall (fun _ _ => 0) ⟨#[], #[.string .empty, .int .u8 0], []⟩).memory Tryd.f8.params.toList Rows.fnExactSplitByteSpec.vars false #[Value.string .empty, .int .u8 0].toList 8 = some ([.lit (.string []), .lit (.int .u8 0)], [], places) :=
  ⟨[], by kernel_rfl⟩

set_option maxRecDepth 100000 in
theorem lifted (os : Os) (started : os.Started) (H : Type) (enc : TypeId × Value → H) (F : Stop.Interp) :
    ReturnsInHanded {} Tryd.checked os 8 .any ((OpenSpec.ofChange Rows.fnExactSplitByteSpec).preRow enc Tryd.prog Tryd.f8 Rows.fnExactSplitByteRow.domain false Rows.fnExactSplitByteRow.laid) (((OpenSpec.ofChange Rows.fnExactSplitByteSpec).at F).post enc Tryd.prog Tryd.f8 false true false false) := by
  obtain ⟨places, hx⟩ := reads os enc
  refine returnsInHanded_of_row (C := Tryd.checked) (s := OpenSpec.ofChange Rows.fnExactSplitByteSpec) own started (by kernel_rfl) Tryd.func8
    (witness_row_at (enc := enc) (C := Tryd.checked) false (laidWorldS os) #[.string .empty, .int .u8 0] rfl (by kernel_rfl) (by kernel_rfl) (by kernel_rfl)
      (OpenSpec.preRow_of_cond 8 hx (by kernel_rfl) (fun k hk => by cases hk) (by kernel_rfl) (laid_met os))) ?_
  intro W base args ds gs before hval hW _ _ _ hL hS _
  exact contract H enc W base args ds gs before hval hW hL hS

theorem said : Rows.FnExactSplitByteSaid :=
  OpenClaim.holds_of_cond 8 Tryd.f8 rfl rfl rfl rfl rfl rfl rfl ⟨rfl, rfl, rfl, rfl, rfl⟩ rfl rfl rfl rfl rfl (by kernel_rfl) Tryd.func8 (by kernel_rfl)
    (of_decide_eq_true (by kernel_rfl)) (by unfold Func.isWrapper; first | (rw [if_pos (by decide +kernel)]; kernel_rfl) | (rw [if_neg (by decide +kernel)]; exact ⟨rfl, rfl⟩))
    (fun os started H enc _ F => by rw [OpenClaim.pre_eq_preRow]; exact lifted os started H enc F)

theorem plain (f : FuncId) (fn : Func) (hf : Tryd.pinned.checked.prog.funcNamed "loop.example/g03101/laws.FnExactSplitByte" = some f) (hfn : Tryd.pinned.checked.prog.funcs[f]? = some fn) :
    true = Tryd.pinned.checked.prog.looks [] ∧ ∀ (j : Nat) t, fn.params[j]? = some t → Tryd.pinned.checked.prog.wantsStandIn t = false := by
  obtain rfl : f = 8 := Option.some.inj ((show Tryd.prog.funcNamed "loop.example/g03101/laws.FnExactSplitByte" = some 8 by kernel_rfl).symm.trans hf) |>.symm
  obtain rfl : fn = Tryd.f8 := (Option.some.inj (Tryd.func8.symm.trans hfn)).symm
  refine ⟨by kernel_rfl, fun j t ht => ?_⟩
  rw [Tryd.params8] at ht
  have hm := Array.mem_of_getElem? ht
  simp only [List.mem_toArray, List.mem_cons, List.not_mem_nil, or_false] at hm
  rcases hm with rfl | rfl
  all_goals exact (show Tryd.prog.wantsStandIn _ = false by kernel_rfl)

theorem card : Rows.FnExactSplitByteCardSaid :=
  Claim7.holds_tied_plain_at .later [] _ _ _ _ said (fun _ h => by cases h) (by kernel_rfl) (fun _ h => by cases h) fnExactSplitByte_row_tie rfl ⟨rfl, rfl⟩ (by kernel_rfl) rfl plain (by kernel_rfl)
end Go.Proofs.YtlepfeffbpoobaaDoor.fnExactSplitByte
