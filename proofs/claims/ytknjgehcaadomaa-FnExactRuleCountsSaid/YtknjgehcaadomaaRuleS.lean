
/-
  spec.l15Step, spec.RuleCounts, by their contracts.
-/
import Derived.Test.YtknjgehcaadomaaRuleM
import Derived.Test.YtknjgehcaadomaaClassC
import Derived.Test.YtknjgehcaadomaaPermsOf
namespace Go.Proofs.Ytknjgehcaadomaa
set_option maxRecDepth 100000
open Go.RowKit

theorem Arg.tail {w : World} {B n c : Nat} {ad : Addr} {zs : List Int} (h : Arg w B (some ad) (n + 1) (c + 1 + 1) zs) : Arg w B (some ⟨ad.block, ad.off + 1, none⟩) n (c + 1) (zs.drop 1) := by
  have hl := h.len
  have hcap := h.cap
  refine ⟨⟨by rw [i64_length, List.length_drop]; omega, fun h0 => ?_⟩, h.under, by have := h.le; omega, by omega, fun z hz => h.small z (List.mem_of_mem_drop hz), fun e => by cases e⟩
  obtain ⟨ad', he, hb, hc⟩ := h.reads.2 (by omega)
  injection he with he
  subst he
  refine ⟨_, rfl, hb, fun j u hu => ?_⟩
  obtain ⟨z, hz, rfl⟩ := i64_at hu
  rw [List.getElem?_drop] at hz
  have := hc _ _ (i64_get hz)
  have e : (⟨ad.block, ad.off + 1, none⟩ : Addr).add j = ad.add (1 + j) := by
    unfold Addr.add
    by_cases h0 : j = 0
    · subst h0; simp
    · rw [if_neg h0, if_neg (by omega)]
      simp [Nat.add_assoc]
  rw [e]
  exact this
set_option maxHeartbeats 1600000 in
theorem sstep_any (A A' : Option Addr) (n c B n' c' B' : Nat) (L : List (List Int)) (l : List Int) (w : World) (hS : IntsS w B (.slice A n c) L) (hn : n ≤ 1048576) (hsm : ∀ z ∈ L, z.length ≤ 1048576 ∧ Small z) (hok : ruleOK L = true) (h : Arg w B' A' n' c' l) (hn' : n' ≤ 5000) :
    Calls Try.prog 15 #[.slice A n c, .slice A' n' c'] w (GivesI w (stepL L l)) := by
  have hL := hS.len
  have hl := h.len
  have HS := hide hS
  have HA := hide h
  have HL := hide hL
  have HLL := hide hl
  have HSM := hide hsm
  have HOK := hide hok
  have hm0 := own0 w w.heap.size (Nat.le_refl _)
  have hb0 := (Below.refl w.heap.size w).alloc (Nat.le_refl _) (.cells #[] 3)
  clear hS hL hl h hsm hok
  go_enter Try.func15, Try.ntmps15
  go_wp2
  go_loopw [5, 6, 7] (fun v k _ wr => ∃ j : Nat, j ≤ n' ∧ k = .int .i64 j ∧ Below w.heap.size w wr ∧ ∃ m, wr.ownsRow w.heap.size 3 1 v m (i64s (stepL L (l.take j))) ∧ m ≤ 19 * j) (fun _ k _ _ => n' - (intOf k).toNat)
  case atStart => exact ⟨0, Nat.zero_le _, rfl, hb0, 0, hm0, Nat.zero_le _⟩
  case round =>
    obtain ⟨j, hj, rfl, hb, m, hown, hm⟩ := hrel
    clear hm0 hb0
    by_cases hlt : j < n'
    · obtain ⟨x, hx⟩ : ∃ x, l[j]? = some x := ⟨_, List.getElem?_eq_getElem (by have := unhide HLL; omega)⟩
      have HST := hide (stepL_take (L := L) hx)
      have HX := hide hx
      clear hx
      go_wp2
      go_loopw [5, 7] (fun v i wi => ∃ k : Nat, k ≤ n ∧ i = .int .i64 k ∧ Below w.heap.size w wi ∧ (∃ m, wi.ownsRow w.heap.size 3 1 v m (i64s (stepL L (l.take j))) ∧ m ≤ 19 * j) ∧ Hid (∀ y ∈ L.take k, y.head? ≠ some x)) (fun _ i _ => n - (intOf i).toNat)
      case atStart => exact ⟨0, Nat.zero_le _, rfl, hb, ⟨m, hown, hm⟩, hide (fun y hy => by simp at hy)⟩
      case round =>
        obtain ⟨k, hk, rfl, hbi, ⟨m2, hown2, hm2⟩, hno⟩ := hrel
        clear hown hb hm
        by_cases hkn : k < n
        · have hSr := (unhide HS).below hbi
          obtain ⟨ad', u', rfl, _, hu', hc'⟩ := ((unhide HA).below hbi).reads.at_ hlt
          obtain rfl : u' = .int .i64 x := by
            have := i64_get (unhide HX)
            rw [this] at hu'; exact (Option.some.inj hu').symm
          clear hu'
          obtain ⟨ad, A1, c1, r, rfl, hz, hcell, hI⟩ := hSr.at_ hkn
          have hrm := List.mem_of_getElem? hz
          obtain ⟨hr0, hr20, _⟩ := ruleOK_mem (unhide HOK) hrm
          obtain ⟨q, hq⟩ : ∃ q, r.length = q + 1 := ⟨r.length - 1, by omega⟩
          have hAr := hI.arg (by omega) hI.cap (unhide HSM r hrm).2
          obtain ⟨ad1, u1, rfl, _, hu1, hc1⟩ := hAr.reads.at_ (show 0 < r.length by omega)
          obtain ⟨y, hy, rfl⟩ := i64_at hu1
          have hhd : r.head? = some y := by rw [List.head?_eq_getElem?]; exact hy
          rw [hq] at hcell hAr
          have hq0 : (0 : Int) < ((q + 1 : Nat) : Int) := by omega
          rw [show ad1.add 0 = ad1 by unfold Addr.add; rw [if_pos rfl]] at hc1
          by_cases hxy : y = x
          · subst hxy
            have HF := hide (folR_hit hz hhd (unhide hno))
            have hbd := below_after hbi (below_drew _ _)
            have hown3 := own_below hown2 (below_drew _ _)
            have hszd := hbd.size
            have hq20 : q ≤ 19 := by omega
            have hcq : q + 1 ≤ c1 := hAr.cap
            have hdl : (r.drop 1).length = q := by rw [List.length_drop]; omega
            have HX2 := hide (show i64s (stepL L (l.take j) ++ r.drop 1) = i64s (stepL L (l.take (j + 1))) from by rw [unhide HST, unhide HF])
            by_cases hc1' : c1 = 1
            · subst hc1'
              obtain rfl : q = 0 := by omega
              have hr1 : r.drop 1 = [] := List.length_eq_zero_iff.1 hdl
              have hAt : Arg wr.drew wr.heap.size (some ad1) 0 0 ([] : List Int) := ⟨⟨rfl, fun h => by omega⟩, hAr.under, by omega, Nat.le_refl _, fun z hz => by simp at hz, fun h => by cases h⟩
              rw [hr1] at HX2
              clear hSr hz hI hrm hr0 hr20 hAr hu1 hy hhd hno hq HF hdl hr1 hbi hown2
              go_wp2
              go_region
              go_wp2_with (first
                | (at_builtin; refine wpList_append_arg rfl (.tmp 32) (.tmp 37) rfl w.heap.size _ m2 0 0 w _ (some ad1) _ [] rfl rfl hown3 hAt (by omega) hbd hszd ?_; intro v' w' hown4 hb4 hg4))
              rw [unhide HX2] at hown4
              go_roundw
              case rel => exact ⟨j + 1, by omega, by go_num, hb4, m2 + 0, hown4, by omega⟩
              case measure => simp [intOf]; omega
            · obtain ⟨c2, rfl⟩ : ∃ c2, c1 = c2 + 1 + 1 := ⟨c1 - 2, by omega⟩
              have hAt := hAr.tail.drew
              clear hSr hz hI hrm hr0 hr20 hAr hu1 hy hhd hno hq HF hdl hbi hown2
              go_wp2
              go_region
              go_wp2_with (first
                | (at_builtin; refine wpList_append_arg rfl (.tmp 32) (.tmp 37) rfl w.heap.size _ m2 q (c2 + 1) w _ (some ⟨ad1.block, ad1.off + 1, none⟩) _ (r.drop 1) rfl rfl hown3 hAt (by omega) hbd hszd ?_; intro v' w' hown4 hb4 hg4))
              rw [unhide HX2] at hown4
              go_roundw
              case rel => exact ⟨j + 1, by omega, by go_num, hb4, m2 + q, hown4, by omega⟩
              case measure => simp [intOf]; omega
          · have hno2 := hide (show ∀ z ∈ L.take (k + 1), z.head? ≠ some x from fun z hz2 => by
              rw [List.take_add_one, hz] at hz2
              rcases List.mem_append.1 hz2 with hz2 | hz2
              · exact unhide hno z hz2
              · simp at hz2
                subst hz2
                rw [hhd]
                intro e
                exact hxy (Option.some.inj e))
            have hxb : (y == x) = false := by rw [beq_eq_false_iff_ne]; exact hxy
            clear hSr hz hI hrm hr0 hr20 hAr hu1 hy hhd hno hq
            have hbd := below_after hbi (below_drew _ _)
            have hown3 := own_below hown2 (below_drew _ _)
            clear hbi hown2
            go_wp2
            go_region
            go_wp2
            go_roundw
            case rel => exact ⟨k + 1, by omega, by go_num, hbd, ⟨m2, hown3, hm2⟩, hno2⟩
            case measure => simp [intOf]; omega
        · obtain rfl : n = k := by omega
          have HF := hide (show folR L x = [] from folR_none (by have h := unhide hno; rwa [← unhide HL, List.take_length] at h))
          have hs2 : stepL L (l.take (j + 1)) = stepL L (l.take j) := by rw [unhide HST, unhide HF, List.append_nil]
          rw [← hs2] at hown2
          clear hs2 hno
          go_wp2
          go_roundw
          case rel => exact ⟨j + 1, by omega, by go_num, hbi, m2, hown2, by omega⟩
          case measure => simp [intOf]; omega
    · obtain rfl : n' = j := by omega
      have hI := Ints.of_own hown
      rw [show l.take n' = l by rw [← unhide HLL, List.take_length]] at hI
      clear hown
      go_wp2
      go_ret
      exact GivesI.mk hI hb
theorem levL_small {L : List (List Int)} {x : Int} (hx : -9223372036854775808 ≤ x ∧ x ≤ 9223372036854775807) (hsm : ∀ z ∈ L, z.length ≤ 1048576 ∧ Small z) : ∀ k, Small (levL L x k)
  | 0 => fun z hz => by
    rw [levL, List.mem_singleton] at hz
    subst hz
    exact hx
  | k + 1 => fun z hz => by
    obtain ⟨r, hr, hzr⟩ := stepL_mem hz
    exact (hsm r hr).2 z hzr
set_option maxHeartbeats 3200000 in
theorem src15_any (A : Option Addr) (n c B : Nat) (L : List (List Int)) (x m : Int) (hx : -9223372036854775808 ≤ x ∧ x ≤ 9223372036854775807) (hm : -9223372036854775808 ≤ m ∧ m ≤ 9223372036854775807) (w : World)
    (hS : IntsS w B (.slice A n c) L) (hn : n ≤ 1048576) (hsm : ∀ z ∈ L, z.length ≤ 1048576 ∧ Small z) :
    Calls Try.prog 5 #[.slice A n c, .int .i64 x, .int .i64 m] w (GivesI w (rcR L x m)) := by
  obtain ⟨hm1, hm2⟩ := hm
  have hL := hS.len
  have HS := hide hS
  have HL := hide hL
  have HSM := hide hsm
  have hm0 := Ints.made0 w w.heap.size (Nat.le_refl _)
  have hb0 := (Below.refl w.heap.size w).alloc (Nat.le_refl _) (.cells #[] 3)
  have ho0 := own0 w w.heap.size (Nat.le_refl _)
  clear hS hL hsm
  go_enter Try.func5, Try.ntmps5
  go_wp2
  go_loopw [8] (fun k wr => ∃ j : Nat, j ≤ n ∧ k = .int .i64 j ∧ Below w.heap.size w wr ∧ wr.ownsRow w.heap.size 3 1 (.slice (some ⟨w.heap.size, 0, none⟩) 0 0) 0 (i64s []) ∧ Hid (∀ r ∈ L.take j, r.length ≠ 0 ∧ r.length ≤ 20 ∧ L.length ≤ 20)) (fun k _ => n - (intOf k).toNat)
  case atStart => exact ⟨0, Nat.zero_le _, rfl, hb0, ho0, hide (fun y hy => by simp at hy)⟩
  case round =>
    obtain ⟨j, hj, rfl, hb, hown, hno⟩ := hrel
    clear hm0 hb0 ho0
    have hIe := Ints.of_own hown
    by_cases hlt : j < n
    · obtain ⟨ad, A1, c1, r, rfl, hz, hcell, hI⟩ := ((unhide HS).below hb).at_ hlt
      have hrm := List.mem_of_getElem? hz
      have hle := (unhide HSM r hrm).1
      by_cases hok : r.length ≠ 0 ∧ r.length ≤ 20 ∧ L.length ≤ 20
      · have hno2 := hide (show ∀ z ∈ L.take (j + 1), z.length ≠ 0 ∧ z.length ≤ 20 ∧ L.length ≤ 20 from fun z hz2 => by
          rw [List.take_add_one, hz] at hz2
          rcases List.mem_append.1 hz2 with hz2 | hz2
          · exact unhide hno z hz2
          · simp at hz2
            subst hz2
            exact hok)
        obtain ⟨h1, h2, h3⟩ := hok
        rw [unhide HL] at h3
        obtain ⟨q, hq⟩ : ∃ q, q = r.length := ⟨_, rfl⟩
        rw [← hq] at hcell h1 h2
        have hq0 : ((q : Int) == 0) = false := by rw [beq_eq_false_iff_ne]; omega
        have hq1 : ¬ (20 : Int) < (q : Int) := by omega
        have hq2 : ¬ (20 : Int) < (n : Int) := by omega
        clear hz hI hrm hno hIe hq hle h1 h2 h3
        go_wp2
        go_roundw
        case rel => exact ⟨j + 1, by omega, by go_num, hb, hown, hno2⟩
        case measure => simp [intOf]; omega
      · have hR := hide (rcR_rule (x := x) (m := m) (ruleOK_no hrm hok))
        have hnl := unhide HL
        obtain ⟨q, hq⟩ : ∃ q, q = r.length := ⟨_, rfl⟩
        rw [← hq] at hcell hok hle
        rw [hnl] at hok
        clear hz hI hrm hno hq hown hnl
        by_cases h1 : q = 0
        · subst h1
          clear hok hle
          go_wp2
          go_ret
          rw [unhide hR]
          exact GivesI.mk hIe hb
        · have hq0 : ((q : Int) == 0) = false := by rw [beq_eq_false_iff_ne]; omega
          by_cases h2 : q ≤ 20
          · have hq1 : ¬ (20 : Int) < (q : Int) := by omega
            have hq2 : (20 : Int) < (n : Int) := by omega
            clear hok hle h1 h2
            go_wp2
            go_ret
            rw [unhide hR]
            exact GivesI.mk hIe hb
          · have hq1 : (20 : Int) < (q : Int) := by omega
            clear hok hle h1 h2
            go_wp2
            go_ret
            rw [unhide hR]
            exact GivesI.mk hIe hb
    · obtain rfl : n = j := by omega
      have HOK := hide (ruleOK_take (L := L) (by have h := unhide hno; have hnl := unhide HL; rw [← hnl] at h; exact h))
      clear hno
      by_cases hin : 0 ≤ m ∧ m ≤ 8
      · obtain ⟨N, rfl⟩ : ∃ N : Nat, m = (N : Int) := ⟨m.toNat, by omega⟩
        have H1 := hide (l1in_any (N : Int) 0 8 true (decide_eq_true hin) wr)
        have hN8 : N ≤ 8 := by omega
        have hdl := (Below.refl wr.heap.size wr).alloc (Nat.le_refl _) (.cells #[.int .i64 x] 3)
        have hlab : Ints (wr.alloc (.cells #[.int .i64 x] 3)) w.heap.size (.slice (some ⟨wr.heap.size, 0, none⟩) 1 1) [x] := Ints.of_own ⟨rfl, .inr ⟨wr.heap.size, 1, #[.int .i64 x], rfl, hb.size, heap_alloc_new wr _, Nat.le_refl _, by unfold maxLen; omega, rfl, rfl⟩⟩
        have HAP := hide (show ∃ U, Until U (.slice (some ⟨w.heap.size, 0, none⟩) 0 0) ∧ Since U (.slice (some ⟨wr.heap.size, 0, none⟩) 1 1) from ⟨wr.heap.size, hIe.until_, fun k hk => by simp [Value.ownBlock] at hk; omega⟩)
        have hbl := below_after hb hdl
        have hol := own_below hown hdl
        have HLS := hide (levL_small (L := L) hx (unhide HSM))
        obtain ⟨i0, hi, hz0, hz1, hz2⟩ := info_parts intInfo
        clear hin hb hown hdl hIe hm1 hm2
        go_wp2_with fail
        refine (unhide H1).mono ?_
        rintro e w2 ⟨rfl, hw2⟩
        rw [hw2]
        clear H1 hw2 w2
        go_wp2
        go_loopw [7, 9, 10] (fun v7 v9 v10 wi => ∃ j : Nat, j ≤ N + 1 ∧ v10 = .int .i64 (j : Int) ∧ Below w.heap.size w wi ∧ wi.ownsRow w.heap.size 3 1 v7 j (i64s (rcK L x j)) ∧ Hid (j ≤ N → Ints wi w.heap.size v9 (levL L x j) ∧ ∃ U, Until U v7 ∧ Since U v9) ∧ Hid (∀ i, i < j → (levL L x i).length ≤ 5000)) (fun _ _ v10 _ => N + 1 - (intOf v10).toNat)
        case atStart => exact ⟨0, Nat.zero_le _, rfl, hbl, hol, hide (fun _ => ⟨hlab, unhide HAP⟩), hide (fun i hi => by omega)⟩
        case round =>
          obtain ⟨j, hj, rfl, hbi, howi, hlv, hle⟩ := hrel
          clear hbl hol hlab
          by_cases hjN : j ≤ N
          · obtain ⟨hIv, U, hun, hsin⟩ := unhide hlv hjN
            obtain ⟨Av, cv, hv9⟩ := hIv.slice
            obtain ⟨q, hq⟩ : ∃ q, q = (levL L x j).length := ⟨_, rfl⟩
            subst hv9
            have hjN' : (j : Int) ≤ (N : Int) := by omega
            by_cases hq5 : q ≤ 5000
            · have hq5' : ¬ (5000 : Int) < (q : Int) := by omega
              have hle2 := hide (show ∀ i, i < j + 1 → (levL L x i).length ≤ 5000 from fun i hi => by
                by_cases h : i = j
                · rw [h, ← hq]; exact hq5
                · exact unhide hle i (by omega))
              have HIV := hide hIv
              have HUS := hide (⟨hun, hsin⟩ : _ ∧ _)
              have HST := hide (show ∀ w3, Below w.heap.size w w3 → Ints w3 w.heap.size (.slice Av (levL L x j).length cv) (levL L x j) → Calls Try.prog 15 #[.slice A n c, .slice Av (levL L x j).length cv] w3 (GivesI w3 (levL L x (j + 1))) from fun w3 d hI3 =>
                sstep_any A Av n c B (levL L x j).length cv w3.heap.size L (levL L x j) w3 ((unhide HS).below d) hn (unhide HSM) (unhide HOK) (hI3.arg (by omega) hI3.cap (unhide HLS j)) (by omega))
              have HRC := hide (show i64s (rcK L x j) ++ [Value.int .i64 (q : Int)] = i64s (rcK L x (j + 1)) from by rw [rcK_step, ← hq]; unfold i64s; simp)
              have hs0 := hbi.size
              have hmx : j ≤ 1099511627776 := by omega
              rw [← hq] at HST HIV HUS ⊢
              clear hIv hlv hle hq hun hsin
              by_cases hlast : j = N
              · subst hlast
                clear HST HIV HUS
                go_wp2_with (first
                  | (at_builtin; refine wpList_append_one rfl (.tmp 53) (.tmp 56) 24 rfl w.heap.size 3 i0 (.int .i64 0) 8 Try.underlying24 hi hz0 hz1 hz2 rfl w _ _ _ _ rfl howi _ rfl rfl rfl (by omega) (by simp only [maxLen]; omega) hbi hs0 ?_; intro v2 w3 hown4 hb4 hg4; clear hg4))
                rw [unhide HRC] at hown4
                go_roundw
                case rel => exact ⟨j + 1, by omega, by go_num, hb4, hown4, hide (fun h => by omega), hle2⟩
                case measure => simp [intOf]
              · have hlt' : (j : Int) < (N : Int) := by omega
                go_wp2_with (first
                  | (at_builtin; refine wpList_append_one rfl (.tmp 53) (.tmp 56) 24 rfl w.heap.size 3 i0 (.int .i64 0) 8 Try.underlying24 hi hz0 hz1 hz2 rfl w _ _ _ _ rfl howi _ rfl rfl rfl (by omega) (by simp only [maxLen]; omega) hbi hs0 ?_; intro v2 w3 hown4 hb4 hg4))
                rw [unhide HRC] at hown4
                have hI3 := (unhide HIV).kept hg4 (apart' (unhide HUS).2 (unhide HUS).1 (Nat.le_refl _))
                have H3 := hide (unhide HST w3 hb4 hI3)
                clear HST HIV HUS hg4 hI3 howi
                go_wp2_with fail
                refine (unhide H3).mono ?_
                rintro e w4 ⟨A4, c4, rfl, o4, d4⟩
                have hown5 := own_below hown4 d4
                have hap := hide (show ∃ U, Until U v2 ∧ Since U (.slice A4 (levL L x (j + 1)).length c4) from ⟨w3.heap.size, fun k hk => (hown4.lt k hk).2, o4.since⟩)
                have hb5 := below_after hb4 d4
                have o5 := o4.low hb4.size
                clear H3 o4 d4 hb4 hown4
                go_wp2
                go_roundw
                case rel => exact ⟨j + 1, by omega, by go_num, hb5, hown5, hide (fun _ => ⟨o5, unhide hap⟩), hle2⟩
                case measure => simp [intOf]; omega
            · have hq5' : (5000 : Int) < (q : Int) := by omega
              have hR := hide (rcR_long (L := L) (x := x) (n := N) (k := j) hjN (by rw [← hq]; exact hq5))
              have hme := Ints.made0 wr w.heap.size hbi.size
              have hbe := hbi.alloc hbi.size (.cells #[] 3)
              rw [← hq]
              clear hIv hlv hle howi hq hbi
              go_wp2
              go_ret
              rw [unhide hR]
              exact GivesI.mk hme hbe
          · obtain rfl : j = N + 1 := by omega
            have hR := hide (rcR_yes (x := x) (unhide HOK) hN8 (fun k hk => unhide hle k (by omega)))
            have hI := Ints.of_own howi
            have hjN' : ¬ ((N + 1 : Nat) : Int) ≤ (N : Int) := by omega
            clear hlv hle howi
            go_wp2
            go_ret
            rw [unhide hR]
            exact GivesI.mk hI hbi
      · have H1 := hide (l1in_any m 0 8 false (decide_eq_false hin) wr)
        have hR := hide (rcR_out (L := L) (x := x) hin)
        clear hin hown
        go_wp2_with fail
        refine (unhide H1).mono ?_
        rintro e w2 ⟨rfl, hw2⟩
        rw [hw2]
        clear H1 hw2 w2
        go_wp2
        go_ret
        rw [unhide hR]
        exact GivesI.mk hIe hb
end Go.Proofs.Ytknjgehcaadomaa
