
/-
  impl.isRule, labelsBehind, replaceLabels, RuleCounts, by their contracts.
-/
import Derived.Test.YtknjgehcaadomaaRuleS
import Derived.Test.YtknjgehcaadomaaIdxR
namespace Go.Proofs.Ytknjgehcaadomaa
set_option maxRecDepth 100000
open Go.RowKit

def badR (r : List Int) : Bool := decide (r.length = 0 ∨ 20 < r.length)
theorem ruleOK_is (L : List (List Int)) : ruleOK L = (decide (L.length ≤ 20) && !L.any badR) := by
  by_cases h : L.length ≤ 20
  · rw [decide_eq_true h, Bool.true_and]
    unfold ruleOK
    rw [Bool.eq_iff_iff, List.all_eq_true, Bool.not_eq_true', List.any_eq_false]
    refine ⟨fun g r hr => ?_, fun g r hr => ?_⟩
    · have := of_decide_eq_true (g r hr)
      unfold badR
      rw [decide_eq_true_eq]; omega
    · have := g r hr
      unfold badR at this
      rw [decide_eq_true_eq] at this
      refine decide_eq_true ?_
      omega
  · rw [decide_eq_false h, Bool.false_and]
    cases hb : ruleOK L with
    | false => rfl
    | true => exact absurd (ruleOK_len hb) h
set_option maxHeartbeats 400000 in
theorem ibad_any (A : Option Addr) (n c B : Nat) (r : List Int) (w : World) (h : Ints w B (.slice A n c) r) :
    Calls Try.prog 20 #[.slice A n c] w (GivesB w (badR r)) := by
  have hl := h.len
  have hb0 := Below.refl w.heap.size w
  by_cases h0 : n = 0
  · subst h0
    have HR := hide (show badR r = true by unfold badR; rw [hl]; rfl)
    clear h hl
    go_enter Try.func20, Try.ntmps20
    go_wp2
    go_ret
    exact ⟨by rw [unhide HR]; rfl, hb0⟩
  · have hn0 : ((n : Int) == 0) = false := by rw [beq_eq_false_iff_ne]; omega
    have HR := hide (show badR r = decide (20 < n) by unfold badR; rw [hl, decide_eq_decide]; omega)
    have hd : decide ((20 : Int) < (n : Int)) = decide (20 < n) := by rw [decide_eq_decide]; omega
    have HD := hide hd
    clear h hl h0 hd
    go_enter Try.func20, Try.ntmps20
    go_wp2
    go_ret
    exact ⟨by rw [unhide HR, ← unhide HD]; rfl, hb0⟩
set_option maxHeartbeats 400000 in
theorem iisr_any (A : Option Addr) (n c B : Nat) (L : List (List Int)) (w : World) (hS : IntsS w B (.slice A n c) L) (hn : n ≤ 1048576) :
    Calls Try.prog 17 #[.slice A n c] w (GivesB w (ruleOK L)) := by
  have hl := hS.len
  have hb0 := Below.refl w.heap.size w
  have H1 := hide (conRU_any A n c B L badR w hS hn (hide fun w1 d A1 c1 z hz hI => ibad_any A1 z.length c1 B z w1 hI))
  have HR := hide (ruleOK_is L)
  rw [hl] at HR
  clear hS hl
  by_cases h2 : n ≤ 20
  · have hq : (n : Int) ≤ 20 := by omega
    have HR2 := hide (show ruleOK L = !L.any badR by rw [unhide HR, decide_eq_true h2, Bool.true_and])
    clear HR h2
    go_enter Try.func17, Try.ntmps17
    go_wp2_with fail
    refine (unhide H1).mono ?_
    rintro e w1 ⟨rfl, d1⟩
    clear H1
    go_wp2
    go_ret
    exact ⟨by rw [unhide HR2]; rfl, d1⟩
  · have hq : ¬ (n : Int) ≤ 20 := by omega
    have HR2 := hide (show ruleOK L = false by rw [unhide HR, decide_eq_false h2, Bool.false_and])
    clear HR h2 H1
    go_enter Try.func17, Try.ntmps17
    go_wp2
    go_ret
    exact ⟨by rw [unhide HR2]; rfl, hb0⟩
/-- An answer that shares memory with an argument: it is read. -/
def Lends (w : World) (zs : List Int) (e : Ending) (w' : World) : Prop :=
  ∃ A m c, e = .returned (.slice A m c) ∧ Arg w' w'.heap.size A m c zs ∧ m ≤ 19 ∧ Below w.heap.size w w'
set_option maxHeartbeats 1600000 in
theorem ibeh_any (A : Option Addr) (n c B : Nat) (L : List (List Int)) (x : Int) (w : World) (hS : IntsS w B (.slice A n c) L) (hn : n ≤ 1048576) (hsm : ∀ z ∈ L, z.length ≤ 1048576 ∧ Small z) (hok : ruleOK L = true) :
    Calls Try.prog 21 #[.slice A n c, .int .i64 x] w (Lends w (folR L x)) := by
  have hL := hS.len
  have HS := hide hS
  have HL := hide hL
  have HSM := hide hsm
  have HOK := hide hok
  have hb0 := Below.refl w.heap.size w
  clear hS hL hsm hok
  go_enter Try.func21, Try.ntmps21
  go_wp2
  go_loopw [6, 9] (fun _ i wi => ∃ k : Nat, k ≤ n ∧ i = .int .i64 k ∧ Below w.heap.size w wi ∧ Hid (∀ y ∈ L.take k, y.head? ≠ some x)) (fun _ i _ => n - (intOf i).toNat)
  case atStart => exact ⟨0, Nat.zero_le _, rfl, hb0, hide (fun y hy => by simp at hy)⟩
  case round =>
    obtain ⟨k, hk, rfl, hbi, hno⟩ := hrel
    clear hb0
    by_cases hkn : k < n
    · have hSr := (unhide HS).below hbi
      obtain ⟨ad, A1, c1, r, rfl, hz, hcell, hI⟩ := hSr.at_ hkn
      have hrm := List.mem_of_getElem? hz
      obtain ⟨hr0, hr20, _⟩ := ruleOK_mem (unhide HOK) hrm
      obtain ⟨q, hq⟩ : ∃ q, r.length = q + 1 := ⟨r.length - 1, by omega⟩
      have hAr := hI.arg (by omega) hI.cap (unhide HSM r hrm).2
      obtain ⟨ad1, u1, rfl, _, hu1, hc1⟩ := hAr.reads.at_ (show 0 < r.length by omega)
      obtain ⟨y, hy, rfl⟩ := i64_at hu1
      have hhd : r.head? = some y := by rw [List.head?_eq_getElem?]; exact hy
      rw [hq] at hcell hAr
      have hq0 : (0 : Int) < ((q + 1 : Nat) : Int) := by omega
      rw [show ad1.add 0 = ad1 by unfold Addr.add; rw [if_pos rfl]] at hc1
      by_cases hxy : y = x
      · subst hxy
        have HF := hide (folR_hit hz hhd (unhide hno))
        have hq20 : q ≤ 19 := by omega
        have hcq : q + 1 ≤ c1 := hAr.cap
        have hdl : (r.drop 1).length = q := by rw [List.length_drop]; omega
        by_cases hc1' : c1 = 1
        · subst hc1'
          obtain rfl : q = 0 := by omega
          have hr1 : r.drop 1 = [] := List.length_eq_zero_iff.1 hdl
          have hfin : Lends w (folR L y) (.returned (.slice (some ad1) 0 0)) wr := by
            rw [unhide HF, hr1]
            exact ⟨_, _, _, rfl, ⟨⟨rfl, fun h => by omega⟩, Nat.le_refl _, by omega, Nat.le_refl _, fun z hz => by simp at hz, fun h => by cases h⟩, by omega, hbi⟩
          clear hSr hz hI hrm hr0 hr20 hAr hu1 hy hhd hno hq HF hdl hr1 hbi
          go_wp2
          go_ret
          exact hfin
        · obtain ⟨c2, rfl⟩ : ∃ c2, c1 = c2 + 1 + 1 := ⟨c1 - 2, by omega⟩
          have hAt := hAr.tail
          have hfin : Lends w (folR L y) (.returned (.slice (some ⟨ad1.block, ad1.off + 1, none⟩) q (c2 + 1))) wr := by
            rw [unhide HF]
            exact ⟨_, _, _, rfl, hAt, hq20, hbi⟩
          clear hSr hz hI hrm hr0 hr20 hAr hu1 hy hhd hno hq HF hdl hbi hAt
          go_wp2
          go_ret
          exact hfin
      · have hno2 := hide (show ∀ z ∈ L.take (k + 1), z.head? ≠ some x from fun z hz2 => by
          rw [List.take_add_one, hz] at hz2
          rcases List.mem_append.1 hz2 with hz2 | hz2
          · exact unhide hno z hz2
          · simp at hz2
            subst hz2
            rw [hhd]
            intro e
            exact hxy (Option.some.inj e))
        have hxb : (y == x) = false := by rw [beq_eq_false_iff_ne]; exact hxy
        clear hSr hz hI hrm hr0 hr20 hAr hu1 hy hhd hno hq
        go_wp2
        go_roundw
        case rel => exact ⟨k + 1, by omega, by go_num, hbi, hno2⟩
        case measure => simp [intOf]; omega
    · obtain rfl : n = k := by omega
      have HF := hide (show folR L x = [] from folR_none (by have h := unhide hno; rwa [← unhide HL, List.take_length] at h))
      have hfin : Lends w (folR L x) (.returned (.slice none 0 0)) wr := by
        rw [unhide HF]
        exact ⟨_, _, _, rfl, ⟨Reads.none_, Nat.le_refl _, by omega, Nat.le_refl _, fun z hz => by simp at hz, fun _ => rfl⟩, by omega, hbi⟩
      clear hno hbi HF
      go_wp2
      go_ret
      exact hfin
set_option maxHeartbeats 1600000 in
theorem irep_any (A A' : Option Addr) (n c B n' c' B' : Nat) (L : List (List Int)) (l : List Int) (w : World) (hS : IntsS w B (.slice A n c) L) (hn : n ≤ 1048576) (hsm : ∀ z ∈ L, z.length ≤ 1048576 ∧ Small z) (hok : ruleOK L = true) (h : Arg w B' A' n' c' l) (hn' : n' ≤ 5000) :
    Calls Try.prog 18 #[.slice A n c, .slice A' n' c'] w (GivesI w (stepL L l)) := by
  have hl := h.len
  have HS := hide hS
  have HA := hide h
  have HLL := hide hl
  have HSM := hide hsm
  have HOK := hide hok
  have hm0 : w.ownsRow w.heap.size 3 1 (.slice none 0 0) 0 (i64s (stepL L (l.take 0))) := ⟨rfl, .inl ⟨rfl, rfl⟩⟩
  have hb0 := Below.refl w.heap.size w
  clear hS hl h hsm hok
  go_enter Try.func18, Try.ntmps18
  go_wp2
  go_loopw [5, 7, 10] (fun v _ k wr => ∃ j : Nat, j ≤ n' ∧ k = .int .i64 j ∧ Below w.heap.size w wr ∧ ∃ m, wr.ownsRow w.heap.size 3 1 v m (i64s (stepL L (l.take j))) ∧ m ≤ 19 * j) (fun _ _ k _ => n' - (intOf k).toNat)
  case atStart => exact ⟨0, Nat.zero_le _, rfl, hb0, 0, hm0, Nat.zero_le _⟩
  case round =>
    obtain ⟨j, hj, rfl, hb, m, hown, hm⟩ := hrel
    clear hm0 hb0
    by_cases hlt : j < n'
    · obtain ⟨x, hx⟩ : ∃ x, l[j]? = some x := ⟨_, List.getElem?_eq_getElem (by have := unhide HLL; omega)⟩
      obtain ⟨ad', u', rfl, _, hu', hc'⟩ := ((unhide HA).below hb).reads.at_ hlt
      obtain rfl : u' = .int .i64 x := by
        have := i64_get hx
        rw [this] at hu'; exact (Option.some.inj hu').symm
      have HST := hide (show i64s (stepL L (l.take j)) ++ i64s (folR L x) = i64s (stepL L (l.take (j + 1))) by rw [i64_append, stepL_take hx])
      have H1 := hide (ibeh_any A n c B L x wr ((unhide HS).below hb) hn (unhide HSM) (unhide HOK))
      clear hx hu'
      go_wp2_with fail
      refine (unhide H1).mono ?_
      rintro e w2 ⟨A2, m2, c2, rfl, hA2, hm2, d2⟩
      have hb2 := below_after hb d2
      have hown2 := own_below hown d2
      have hs2 := hb2.size
      clear H1 d2 hb hown
      go_wp2_with (first
        | (at_builtin; refine wpList_append_arg rfl (.tmp 14) (.tmp 17) rfl w.heap.size _ m m2 c2 w _ A2 _ (folR L x) rfl rfl hown2 hA2 (by omega) hb2 hs2 ?_; intro v' w' hown4 hb4 hg4))
      rw [i64_append] at HST
      have hown5 : w'.ownsRow w.heap.size 3 1 v' (m + m2) (i64s (stepL L (l.take (j + 1)))) := by rw [← unhide HST]; exact hown4
      clear hown4 hg4 HST
      go_roundw
      case rel => exact ⟨j + 1, by omega, by go_num, hb4, m + m2, hown5, by omega⟩
      case measure => simp [intOf]; omega
    · obtain rfl : n' = j := by omega
      have hI := Ints.of_own hown
      rw [show l.take n' = l by rw [← unhide HLL, List.take_length]] at hI
      clear hown
      go_wp2
      go_ret
      exact GivesI.mk hI hb
set_option maxHeartbeats 3200000 in
theorem ircnt_any (A : Option Addr) (n c B : Nat) (L : List (List Int)) (x m : Int) (hx : -9223372036854775808 ≤ x ∧ x ≤ 9223372036854775807) (hm : -9223372036854775808 ≤ m ∧ m ≤ 9223372036854775807) (w : World)
    (hS : IntsS w B (.slice A n c) L) (hn : n ≤ 1048576) (hsm : ∀ z ∈ L, z.length ≤ 1048576 ∧ Small z) :
    Calls Try.prog 7 #[.slice A n c, .int .i64 x, .int .i64 m] w (GivesI w (rcR L x m)) := by
  obtain ⟨hm1, hm2⟩ := hm
  have hb0 := Below.refl w.heap.size w
  have hmn := Ints.nil w w.heap.size
  by_cases hin : 0 ≤ m ∧ m ≤ 8
  · obtain ⟨N, rfl⟩ : ∃ N : Nat, m = (N : Int) := ⟨m.toNat, by omega⟩
    have hN8 : N ≤ 8 := by omega
    have hg1 : ¬ (N : Int) < 0 := by omega
    have hg2 : ¬ (8 : Int) < (N : Int) := by omega
    obtain ⟨b, hok⟩ : ∃ b, ruleOK L = b := ⟨_, rfl⟩
    have H1 := hide (iisr_any A n c B L w hS hn)
    rw [hok] at H1
    cases b with
    | false =>
      have hR := hide (rcR_rule (x := x) (m := N) hok)
      clear hS hsm hok hm1 hm2 hin
      go_enter Try.func7, Try.ntmps7
      go_wp2_with fail
      refine (unhide H1).mono ?_
      rintro e w2 ⟨rfl, d2⟩
      clear H1
      go_wp2
      go_ret
      rw [unhide hR]
      exact GivesI.mk (Ints.nil w2 _) d2
    | true =>
      have HS := hide hS
      have HSM := hide hsm
      have HOK := hide hok
      have HLS := hide (levL_small (L := L) hx hsm)
      obtain ⟨i0, hi, hz0, hz1, hz2⟩ := info_parts intInfo
      clear hS hsm hok hm1 hm2 hin hmn
      go_enter Try.func7, Try.ntmps7
      go_wp2_with fail
      refine (unhide H1).mono ?_
      rintro e w2 ⟨rfl, d2⟩
      have hd1 := (Below.refl w2.heap.size w2).alloc (Nat.le_refl _) (.cells #[.int .i64 x] 3)
      have hlab : Ints (w2.alloc (.cells #[.int .i64 x] 3)) w.heap.size (.slice (some ⟨w2.heap.size, 0, none⟩) 1 1) [x] := Ints.of_own ⟨rfl, .inr ⟨w2.heap.size, 1, #[.int .i64 x], rfl, d2.size, heap_alloc_new w2 _, Nat.le_refl _, by unfold maxLen; omega, rfl, rfl⟩⟩
      have hb1 := below_after d2 hd1
      have hsz1 : (w2.alloc (.cells #[.int .i64 x] 3)).heap.size = w2.heap.size + 1 := by simp
      have hd2 := (Below.refl (w2.alloc (.cells #[.int .i64 x] 3)).heap.size (w2.alloc (.cells #[.int .i64 x] 3))).alloc (Nat.le_refl _) (.cells #[.int .i64 1] 3)
      have hbl := below_after hb1 hd2
      have hlab2 := hlab.below hd2
      have hcnt : ((w2.alloc (.cells #[.int .i64 x] 3)).alloc (.cells #[.int .i64 1] 3)).ownsRow w.heap.size 3 1 (.slice (some ⟨w2.heap.size + 1, 0, none⟩) 1 1) 1 (i64s (rcK L x 1)) :=
        ⟨rfl, .inr ⟨w2.heap.size + 1, 1, #[.int .i64 1], rfl, by have := d2.size; omega, by rw [← hsz1]; exact heap_alloc_new _ _, Nat.le_refl _, by unfold maxLen; omega, rfl, rfl⟩⟩
      have HAP := hide (show ∃ U, Until U (.slice (some ⟨w2.heap.size, 0, none⟩) 1 1) ∧ Since U (.slice (some ⟨w2.heap.size + 1, 0, none⟩) 1 1) from ⟨w2.heap.size + 1, fun k hk => by simp [Value.ownBlock] at hk; omega, fun k hk => by simp [Value.ownBlock] at hk; omega⟩)
      have hap0 : (Value.slice (some ⟨w2.heap.size, 0, none⟩) 1 1).ownBlock = none ∨ (Value.slice (some ⟨w2.heap.size, 0, none⟩) 1 1).ownBlock ≠ (Value.slice (some ⟨w2.heap.size + 1, 0, none⟩) 1 1).ownBlock := .inr (by simp [Value.ownBlock])
      clear H1 d2 hd1 hd2 hlab hb1 hsz1 HAP
      go_wp2
      go_loopw [7, 8, 24] (fun v7 v8 v24 wi => ∃ j : Nat, j ≤ N ∧ v24 = .int .i64 (j : Int) ∧ Below w.heap.size w wi ∧ wi.ownsRow w.heap.size 3 1 v8 (j + 1) (i64s (rcK L x (j + 1))) ∧ Ints wi w.heap.size v7 (levL L x j) ∧ Hid (∀ i, i ≤ j → (levL L x i).length ≤ 5000)) (fun _ _ v24 _ => N - (intOf v24).toNat)
      case atStart => exact ⟨0, Nat.zero_le _, rfl, hbl, hcnt, hlab2, hide (fun i hi => by rw [Nat.le_zero.1 hi]; simp [levL])⟩
      case round =>
        obtain ⟨j, hj, rfl, hbi, howi, hIv, hle⟩ := hrel
        clear hbl hcnt hlab2 hap0
        by_cases hjN : j < N
        · obtain ⟨Av, cv, rfl⟩ := hIv.slice
          have hlj := unhide hle j (Nat.le_refl _)
          obtain ⟨q, hq⟩ : ∃ q, q = (levL L x j).length := ⟨_, rfl⟩
          have H2 := hide (irep_any A Av n c B (levL L x j).length cv wr.heap.size L (levL L x j) wr ((unhide HS).below hbi) hn (unhide HSM) (unhide HOK) (hIv.arg (by omega) hIv.cap (unhide HLS j)) (by omega))
          rw [← hq] at H2 ⊢
          clear hq hIv hlj
          go_wp2_with fail
          refine (unhide H2).mono ?_
          rintro e w4 ⟨A4, c4, rfl, o4, d4⟩
          have hown5 := own_below howi d4
          have hb5 := below_after hbi d4
          have hap := apart' o4.since (fun k hk => (howi.lt k hk).2) (Nat.le_refl _)
          have o5 := o4.low hbi.size
          clear H2 o4 d4 hbi howi
          obtain ⟨p, hp⟩ : ∃ p, p = (stepL L (levL L x j)).length := ⟨_, rfl⟩
          rw [← hp] at o5 hap ⊢
          by_cases hq5 : p ≤ 5000
          · have hq5' : ¬ (5000 : Int) < (p : Int) := by omega
            have hle2 := hide (show ∀ i, i ≤ j + 1 → (levL L x i).length ≤ 5000 from fun i hi => by
              by_cases h : i = j + 1
              · rw [h]; show (stepL L (levL L x j)).length ≤ 5000; rw [← hp]; exact hq5
              · exact unhide hle i (by omega))
            have HRC := hide (show i64s (rcK L x (j + 1)) ++ [Value.int .i64 (p : Int)] = i64s (rcK L x (j + 1 + 1)) from by rw [rcK_step L x (j + 1), hp]; unfold i64s; simp [levL])
            have hs0 := hb5.size
            have hO5 := hide o5
            clear hle hp o5
            go_wp2_with (first
              | (at_builtin; refine wpList_append_one rfl (.tmp 32) (.tmp 35) 24 rfl w.heap.size 3 i0 (.int .i64 0) 8 Try.underlying24 hi hz0 hz1 hz2 rfl w _ _ _ _ rfl hown5 _ rfl rfl rfl (by omega) (by simp only [maxLen]; omega) hb5 hs0 ?_; intro v2 w3 hown4 hb4 hg4))
            rw [unhide HRC] at hown4
            have hI3 : Ints w3 w.heap.size (.slice A4 p c4) (levL L x (j + 1)) := (unhide hO5).kept hg4 hap
            clear hg4 hO5 hap hown5
            go_roundw
            case rel => exact ⟨j + 1, by omega, by go_num, hb4, hown4, hI3, hle2⟩
            case measure => simp [intOf]; omega
          · have hq5' : (5000 : Int) < (p : Int) := by omega
            have hR := hide (rcR_long (L := L) (x := x) (n := N) (k := j + 1) (by omega) (show ¬ (stepL L (levL L x j)).length ≤ 5000 by rw [← hp]; exact hq5))
            clear hle hp o5 hap hown5
            go_wp2
            go_ret
            rw [unhide hR]
            exact GivesI.mk (Ints.nil w4 _) hb5
        · obtain rfl : j = N := by omega
          have hR := hide (rcR_yes (x := x) (unhide HOK) hN8 (fun k hk => unhide hle k hk))
          have hI := Ints.of_own howi
          have hjN' : ¬ (j : Int) < (j : Int) := by omega
          clear hle howi hIv
          go_wp2
          go_ret
          rw [unhide hR]
          exact GivesI.mk hI hbi
  · have hR := hide (rcR_out (L := L) (x := x) hin)
    by_cases hl : m < 0
    · clear hin hS hsm
      go_enter Try.func7, Try.ntmps7
      go_wp2
      go_ret
      rw [unhide hR]
      exact GivesI.mk hmn hb0
    · have hg : (8 : Int) < m := by omega
      clear hin hS hsm
      go_enter Try.func7, Try.ntmps7
      go_wp2
      go_ret
      rw [unhide hR]
      exact GivesI.mk hmn hb0
end Go.Proofs.Ytknjgehcaadomaa
