
/-
  impl.symmetrySteps and impl.SymmetryOf, by their contracts.
-/
import Derived.Test.YtkjjjnkgkgdfkaaRev
import Derived.Test.YtkjjjnkgkgdfkaaSame
import Derived.Test.YtkjjjnkgkgdfkaaTurn
import Derived.Test.YtkjjjnkgkgdfkaaAsc
namespace Go.Proofs.Ytkjjjnkgkgdfkaa
set_option maxRecDepth 100000
open Go.RowKit

theorem stepsInfo : (Try.prog.info? 68).map (·.size) = some 3 := by kernel_rfl
def steps : Array Value := #[.func (.func 90) #[] #[], .func (.func 46) #[] #[], .func (.func 48) #[] #[]]
theorem steps_one : steps.all (·.oneCell') = true := by simp [steps, Value.oneCell']
set_option maxHeartbeats 400000 in
theorem steps_any (w : World) : Calls Try.prog 71 #[] w fun e w' => e = .returned (.agg #[.func (.func 90) #[] #[], .func (.func 46) #[] #[], .func (.func 48) #[] #[]]) ∧ Below w.heap.size w w' := by
  have h1 := Whole.new w 68 #[.nilFunc, .nilFunc, .nilFunc]
  have hb := (Below.refl w.heap.size w).alloc (Nat.le_refl _) (.cells #[.nilFunc, .nilFunc, .nilFunc] 68)
  go_enter Try.func71, Try.ntmps71
  go_wp2_with (refine wpList_store_row rfl 68 (.tmp 0) (.tmp 1) rfl w.heap.size steps rfl rfl 68 #[.nilFunc, .nilFunc, .nilFunc] h1 stepsInfo rfl steps_one ?_)
  refine bodyPost_ret (v := .agg steps) (results_cell_row Try.results71 _ _ w.heap.size 68 steps (0, 0) _ rfl (setRow_heap _ _ _ _ _ _ h1) Try.underlying68 rfl stepsInfo) rfl ?_
  exact ⟨rfl, below_set_row hb _ _ (Nat.le_refl _)⟩

theorem index_steps : (∀ w : World, (Instr.index 68 (.agg #[.func (.func 90) #[] #[], .func (.func 46) #[] #[], .func (.func 48) #[] #[]]) (.int .i64 0)).run Try.prog w = .ok (.func (.func 90) #[] #[]) w) ∧
    (∀ w : World, (Instr.index 68 (.agg #[.func (.func 90) #[] #[], .func (.func 46) #[] #[], .func (.func 48) #[] #[]]) (.int .i64 1)).run Try.prog w = .ok (.func (.func 46) #[] #[]) w) ∧
    (∀ w : World, (Instr.index 68 (.agg #[.func (.func 90) #[] #[], .func (.func 46) #[] #[], .func (.func 48) #[] #[]]) (.int .i64 2)).run Try.prog w = .ok (.func (.func 48) #[] #[]) w) :=
  ⟨fun _ => by kernel_rfl, fun _ => by kernel_rfl, fun _ => by kernel_rfl⟩
theorem digs : ∀ k : Nat, k ≤ 7 → (bits .and .i64 (k : Int) 1 == 1) = decide (k % 2 = 1) ∧ (bits .and .i64 ((k : Int) / 2) 1 == 1) = decide (k / 2 % 2 = 1) ∧ (bits .and .i64 ((k : Int) / 4) 1 == 1) = decide (4 ≤ k) := by
  intro k hk
  have h : k = 0 ∨ k = 1 ∨ k = 2 ∨ k = 3 ∨ k = 4 ∨ k = 5 ∨ k = 6 ∨ k = 7 := by omega
  rcases h with rfl | rfl | rfl | rfl | rfl | rfl | rfl | rfl <;> decide +kernel
def stg (zs : List Int) (k : Nat) : Nat → List Int
  | 0 => zs
  | 1 => sym1 zs k
  | 2 => sym2 zs k
  | _ => symL zs k
theorem stg_isP {zs : List Int} (h : isP zs = true) (k : Nat) : ∀ j, isP (stg zs k j) = true
  | 0 => h
  | 1 => sym1_isP h k
  | 2 => sym2_isP h k
  | _ + 3 => symL_isP h k
set_option maxHeartbeats 800000 in
theorem isym_yes (A : Option Addr) (n c B : Nat) (zs : List Int) (k : Nat) (hk : k ≤ 7) (w : World) (h : Arg w B A n c zs) (hp : isP zs = true) :
    Calls Try.prog 34 #[.slice A n c, .int .i64 (k : Int)] w (GivesIB w (symL zs k) true) := by
  have H1 := hide (iisperm_any A n c B zs true hp w h.reads h.under h.le h.small)
  have H2 := hide (fun w' (hb' : Below w.heap.size w w') => clone_any A n c B zs w' (h.below hb'))
  have hl := hide h.len
  clear h
  go_enter Try.func34, Try.ntmps34
  go_wp2_with fail
  refine (unhide H1).mono ?_
  rintro e w1 ⟨rfl, hb⟩
  have H3 := hide (unhide H2 w1 hb)
  clear H1 H2
  go_wp2_with fail
  refine (unhide H3).mono ?_
  rintro e w2 ⟨A2, c2, rfl, o2, d⟩
  have cur := o2.low hb.size
  have hb2 := below_after hb d
  have H4 := hide (steps_any w2)
  clear H3 hb d o2
  go_wp2_with fail
  refine (unhide H4).mono ?_
  rintro e w3 ⟨rfl, d⟩
  have cur := cur.kept (grown_of_below d none) (by cases hv : (Value.slice A2 zs.length c2).ownBlock <;> simp)
  have hb := below_after hb2 d
  clear H4 hb2 d
  go_wp2
  go_loopw [6, 7, 8, 23] (fun v _ _ i wr => ∃ j : Nat, j ≤ 3 ∧ i = .int .i64 j ∧ Below w.heap.size w wr ∧ Ints wr w.heap.size v (stg zs k j)) (fun _ _ _ i _ => 3 - (intOf i).toNat)
  case atStart => exact ⟨0, Nat.zero_le _, rfl, hb, cur⟩
  case round =>
    obtain ⟨j, hj, rfl, hbw, hI⟩ := hrel
    clear cur hb
    obtain ⟨A4, c4, rfl⟩ := hI.slice
    have hP := stg_isP hp k j
    match j, hj with
    | 0, _ =>
      have i0 := index_steps.1
      have hd := (digs k hk).1
      cases hq : decide (k % 2 = 1) with
      | true =>
        rw [hq] at hd
        have hs : stg zs k 1 = invFill (stg zs k 0) (stg zs k 0).length := by
          show sym1 zs k = _
          unfold sym1
          rw [if_pos (of_decide_eq_true hq)]
          rfl
        have H := hide (invof_any _ _ _ _ _ _ (hI.argP hP))
        rw [invR_yes hP] at H
        rw [← hs] at H
        have hsz := hbw.size
        clear hI hq hs
        go_wp2_with fail
        refine (unhide H).mono ?_
        rintro e w5 ⟨A5, c5, rfl, o5, d5⟩
        have hI5 := o5.low hsz
        have hb5 := below_after hbw d5
        clear H o5 d5 hbw hsz
        go_wp2
        go_roundw
        case rel => exact ⟨1, by omega, rfl, hb5, hI5⟩
        case measure => simp [intOf]
      | false =>
        rw [hq] at hd
        have hs : stg zs k 1 = stg zs k 0 := by
          show sym1 zs k = _
          unfold sym1
          rw [if_neg (of_decide_eq_false hq)]
          rfl
        have hI5 : Ints wr w.heap.size (.slice A4 (stg zs k 0).length c4) (stg zs k 1) := by rw [hs]; exact hI
        clear hI hq hs
        go_wp2
        go_roundw
        case rel => exact ⟨1, by omega, rfl, hbw, hI5⟩
        case measure => simp [intOf]
    | 1, _ =>
      have i0 := index_steps.2.1
      have hd := (digs k hk).2.1
      cases hq : decide (k / 2 % 2 = 1) with
      | true =>
        rw [hq] at hd
        have hs : stg zs k 2 = (stg zs k 1).reverse := by
          show sym2 zs k = _
          unfold sym2
          rw [if_pos (of_decide_eq_true hq)]
          rfl
        have H := hide (irev_any _ _ _ _ _ _ (hI.argP hP))
        rw [revR_yes hP] at H
        rw [← hs] at H
        have hsz := hbw.size
        clear hI hq hs
        go_wp2_with fail
        refine (unhide H).mono ?_
        rintro e w5 ⟨A5, c5, rfl, o5, d5⟩
        have hI5 := o5.low hsz
        have hb5 := below_after hbw d5
        clear H o5 d5 hbw hsz
        go_wp2
        go_roundw
        case rel => exact ⟨2, by omega, rfl, hb5, hI5⟩
        case measure => simp [intOf]
      | false =>
        rw [hq] at hd
        have hs : stg zs k 2 = stg zs k 1 := by
          show sym2 zs k = _
          unfold sym2
          rw [if_neg (of_decide_eq_false hq)]
          rfl
        have hI5 : Ints wr w.heap.size (.slice A4 (stg zs k 1).length c4) (stg zs k 2) := by rw [hs]; exact hI
        clear hI hq hs
        go_wp2
        go_roundw
        case rel => exact ⟨2, by omega, rfl, hbw, hI5⟩
        case measure => simp [intOf]
    | 2, _ =>
      have i0 := index_steps.2.2
      have hd := (digs k hk).2.2
      cases hq : decide (4 ≤ k) with
      | true =>
        rw [hq] at hd
        have hs : stg zs k 3 = cplL (stg zs k 2) := by
          show symL zs k = _
          unfold symL
          rw [if_pos (of_decide_eq_true hq)]
          rfl
        have H := hide (icpl_any _ _ _ _ _ _ (hI.argP hP))
        rw [cplR_yes hP] at H
        rw [← hs] at H
        have hsz := hbw.size
        clear hI hq hs
        go_wp2_with fail
        refine (unhide H).mono ?_
        rintro e w5 ⟨A5, c5, rfl, o5, d5⟩
        have hI5 := o5.low hsz
        have hb5 := below_after hbw d5
        clear H o5 d5 hbw hsz
        go_wp2
        go_roundw
        case rel => exact ⟨3, by omega, rfl, hb5, hI5⟩
        case measure => simp [intOf]
      | false =>
        rw [hq] at hd
        have hs : stg zs k 3 = stg zs k 2 := by
          show symL zs k = _
          unfold symL
          rw [if_neg (of_decide_eq_false hq)]
          rfl
        have hI5 : Ints wr w.heap.size (.slice A4 (stg zs k 2).length c4) (stg zs k 3) := by rw [hs]; exact hI
        clear hI hq hs
        go_wp2
        go_roundw
        case rel => exact ⟨3, by omega, rfl, hbw, hI5⟩
        case measure => simp [intOf]
    | 3, _ =>
      clear hP
      go_wp2
      go_ret2
      exact GivesIB.mk true hI hbw

set_option maxHeartbeats 400000 in
theorem isym_any (A : Option Addr) (n c B : Nat) (zs : List Int) (k : Int) (hk : -9223372036854775808 ≤ k ∧ k ≤ 9223372036854775807) (w : World) (h : Arg w B A n c zs) :
    Calls Try.prog 34 #[.slice A n c, .int .i64 k] w (GivesIB w (symR zs k) (symOK zs k)) := by
  obtain ⟨b, hb⟩ : ∃ b, isP zs = b := ⟨_, rfl⟩
  cases b with
  | false =>
    have H1 := hide (iisperm_any A n c B zs false hb w h.reads h.under h.le h.small)
    rw [symR_no (symOK_no1 hb), symOK_no1 hb]
    clear hb h
    go_enter Try.func34, Try.ntmps34
    go_wp2_with fail
    refine (unhide H1).mono ?_
    rintro e w1 ⟨rfl, hb⟩
    clear H1
    go_wp2
    go_ret2
    exact GivesIB.mk (v := .slice none 0 0) false (Ints.nil _ _) hb
  | true =>
    by_cases hin : 0 ≤ k ∧ k ≤ 7
    · obtain ⟨j, rfl⟩ : ∃ j : Nat, k = (j : Int) := ⟨k.toNat, by omega⟩
      rw [symR_yes (symOK_yes hb hin), symOK_yes hb hin, Int.toNat_natCast]
      exact isym_yes A n c B zs j (by omega) w h hb
    · have H1 := hide (iisperm_any A n c B zs true hb w h.reads h.under h.le h.small)
      rw [symR_no (symOK_no2 hin), symOK_no2 hin]
      obtain ⟨hk1, hk2⟩ := hk
      clear hb h
      by_cases h0 : k < 0
      · clear hin
        go_enter Try.func34, Try.ntmps34
        go_wp2_with fail
        refine (unhide H1).mono ?_
        rintro e w1 ⟨rfl, hb⟩
        clear H1
        go_wp2
        go_ret2
        exact GivesIB.mk (v := .slice none 0 0) false (Ints.nil _ _) hb
      · have h8 : 8 ≤ k := by omega
        clear hin
        go_enter Try.func34, Try.ntmps34
        go_wp2_with fail
        refine (unhide H1).mono ?_
        rintro e w1 ⟨rfl, hb⟩
        clear H1
        go_wp2
        go_ret2
        exact GivesIB.mk (v := .slice none 0 0) false (Ints.nil _ _) hb
end Go.Proofs.Ytkjjjnkgkgdfkaa
