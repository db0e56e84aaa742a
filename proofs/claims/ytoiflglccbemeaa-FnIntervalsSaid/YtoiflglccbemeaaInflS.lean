
/-
  spec.InflateBy, by its contract.
-/
import Derived.Test.YtoiflglccbemeaaInfl
import Derived.Test.YtoiflglccbemeaaClo
namespace Go.Proofs.Ytoiflglccbemeaa
set_option maxRecDepth 100000
open Go.RowKit

set_option maxHeartbeats 3200000 in
theorem sinfl_any (A A' : Option Addr) (n c B n' c' B' : Nat) (p : List Int) (l : List (List Int)) (w : World) (h : Arg w B A n c p) (hS : IntsS w B' (.slice A' n' c') l) (hn : n' ≤ 1048576) (hsm : ∀ z ∈ l, z.length ≤ 1048576 ∧ Small z) :
    Calls Try.prog 18 #[.slice A n c, .slice A' n' c'] w (GivesIB w (inflR p l) (inflOK p l)) := by
  obtain ⟨i0, hi, hz0, hz1, hz2⟩ := info_parts intInfo
  obtain ⟨b, hb⟩ : ∃ b, isP p = b := ⟨_, rfl⟩
  have H0 := hide (sisperm_any A n c B p b hb w h.reads h.le h.cap)
  have hl := h.len
  have hsl := hS.len
  cases b with
  | false =>
    rw [inflR_no (inflOK_no1 hb), inflOK_no1 hb]
    clear hb h hl hS hsl
    go_enter Try.func18, Try.ntmps18
    go_wp2_with fail
    refine (unhide H0).mono ?_
    rintro e w1 ⟨rfl, hd⟩
    have hb2 := (hd.below w.heap.size).alloc hd.below_size (.cells #[] 3)
    have hI := Ints.made0 w1 w.heap.size hd.below_size
    clear H0 hd
    go_wp2
    go_ret2
    exact GivesIB.mk _ hI hb2
  | true =>
    by_cases hnn : n' = n
    rotate_left
    · rw [inflR_no (inflOK_no2 (by omega)), inflOK_no2 (by omega)]
      have hnn' : ¬ (n' : Int) = (n : Int) := by omega
      clear hb h hl hS hsl
      go_enter Try.func18, Try.ntmps18
      go_wp2_with fail
      refine (unhide H0).mono ?_
      rintro e w1 ⟨rfl, hd⟩
      have hb2 := (hd.below w.heap.size).alloc hd.below_size (.cells #[] 3)
      have hI := Ints.made0 w1 w.heap.size hd.below_size
      clear H0 hd
      go_wp2
      go_ret2
      exact GivesIB.mk _ hI hb2
    subst hnn
    have hn8 : n' ≤ 8 := by have := isP_le hb; omega
    obtain ⟨b2, hb2⟩ : ∃ b, allP l = b := ⟨_, rfl⟩
    have H1 := hide (fun w' (hd : Drew w w') => l3all_any A' n' c' B' l b2 hb2 w' (hS.below (hd.below _)) hn hsm)
    cases b2 with
    | false =>
      rw [inflR_no (inflOK_no3 hb2), inflOK_no3 hb2]
      clear hb h hl hS hsl hb2
      go_enter Try.func18, Try.ntmps18
      go_wp2_with fail
      refine (unhide H0).mono ?_
      rintro e w1 ⟨rfl, hd⟩
      have H2 := hide (unhide H1 _ hd)
      go_wp2_with fail
      refine (unhide H2).mono ?_
      rintro e w2 ⟨rfl, hd2⟩
      have hd := hd.trans hd2
      have hb2 := (hd.below w.heap.size).alloc hd.below_size (.cells #[] 3)
      have hI := Ints.made0 w2 w.heap.size hd.below_size
      clear H0 hd hd2 H1 H2
      go_wp2
      go_ret2
      exact GivesIB.mk _ hI hb2
    | true =>
      have HP := hide hb
      have HL := hide hl
      have HSL := hide hsl
      have HC := hide h
      have HS := hide hS
      have HSM := hide hsm
      have HAP := hide hb2
      have HN4 := hide (fun z (hz : z ∈ l) (hzb : z.length = 0) => inflOK_no4 (p := p) (noNil_no hz hzb))
      have HN5 := hide (fun (hx : ¬ tot l ≤ 8) => inflOK_no5 (p := p) hx)
      clear hb h hl hS hsl hsm hb2
      go_enter Try.func18, Try.ntmps18
      go_wp2_with fail
      refine (unhide H0).mono ?_
      rintro e w1 ⟨rfl, hd⟩
      have H2 := hide (unhide H1 _ hd)
      go_wp2_with fail
      refine (unhide H2).mono ?_
      rintro e w2 ⟨rfl, hd2⟩
      have hdd := hd.trans hd2
      have hsz := hdd.below_size
      have hbw := hdd.below w.heap.size
      clear H0 hd hd2 H1 H2 hdd
      go_wp2
      go_loop [6, 7] (fun t i => ∃ k : Nat, k ≤ n' ∧ i = .int .i64 k ∧ t = .int .i64 (tot (l.take k) : Int) ∧ tot (l.take k) ≤ 8 ∧ Hid (∀ y ∈ l.take k, y.length ≠ 0)) (fun _ i => n' - (intOf i).toNat)
      case atStart => exact ⟨0, Nat.zero_le _, rfl, rfl, by simp [tot], fun y hy => by simp at hy⟩
      case round =>
        obtain ⟨k, hk, rfl, rfl, ht8, hall⟩ := hrel
        obtain ⟨T, hT⟩ : ∃ T, T = tot (l.take k) := ⟨_, rfl⟩
        rw [← hT] at ht8 ⊢
        by_cases hlt : k < n'
        · obtain ⟨ad', A1, c1, z, rfl, hz, hcell, hIz⟩ := (unhide HS).at_low hbw hlt
          obtain ⟨hzl, hzs⟩ := unhide HSM z (List.mem_of_getElem? hz)
          obtain ⟨m, hm⟩ : ∃ m, z.length = m := ⟨_, rfl⟩
          have hst := tot_step hz
          rw [← hT, hm] at hst
          rw [hm] at hcell hzl hIz
          have htl := tot_take l (k + 1)
          by_cases h0 : m = 0
          · subst h0
            have hno := unhide HN4 z (List.mem_of_getElem? hz) hm
            have hb2 := hbw.alloc hsz (.cells #[] 3)
            have hI := Ints.made0 w2 w.heap.size hsz
            have HE := hide (And.intro (inflR_no hno) hno)
            clear hz hIz hm hno hall hT hst htl
            go_wp2
            go_ret2
            rw [(unhide HE).1, (unhide HE).2]
            exact GivesIB.mk _ hI hb2
          · by_cases h8 : T + m ≤ 8
            · have hall2 : Hid (∀ y ∈ l.take (k + 1), y.length ≠ 0) := hide (fun y hy => by
                rw [List.take_add_one, hz] at hy
                rcases List.mem_append.1 hy with hy | hy
                · exact unhide hall y hy
                · simp at hy
                  subst hy
                  omega)
              have HST := hide hst
              clear hz hIz hm hall hT hst htl
              have hm0 : ((m : Int) == 0) = false := by rw [beq_eq_false_iff_ne]; omega
              have hm8 : ¬ 8 < (T : Int) + (m : Int) := by omega
              go_wp2
              go_round
              case rel => exact ⟨k + 1, by omega, by go_num, by rw [unhide HST]; go_num, by rw [unhide HST]; exact h8, hall2⟩
              case measure => simp [intOf]; omega
            · have hno := unhide HN5 (by omega)
              have hb2 := hbw.alloc hsz (.cells #[] 3)
              have hI := Ints.made0 w2 w.heap.size hsz
              have HE := hide (And.intro (inflR_no hno) hno)
              clear hz hIz hm hno hall hT hst htl
              go_wp2
              go_ret2
              rw [(unhide HE).1, (unhide HE).2]
              exact GivesIB.mk _ hI hb2
        · obtain rfl : n' = k := by omega
          have e : l.take n' = l := List.take_of_length_le (by rw [unhide HSL]; exact Nat.le_refl _)
          have hnn : noNil l = true := noNil_yes fun z hz => unhide hall z (by rw [e]; exact hz)
          have hok : inflOK p l = true := inflOK_yes (unhide HP) (by rw [unhide HL, unhide HSL]) (unhide HAP) hnn (by rw [e] at hT; omega)
          have HE := hide (And.intro (show inflR p l = inflK p l n' by rw [inflR_yes hok, unhide HL]) hok)
          have HT : Hid (∀ k, (inflK p l k).length ≤ 8) := hide (fun k => by
            rw [inflK_length]
            have := tot_take l k
            rw [e] at hT; omega)
          have hst := own0 w2 w.heap.size hsz
          have hbw2 := hbw.alloc hsz (.cells #[] 3)
          clear e hnn hok hall hT
          go_wp2
          go_loopw [8, 9, 10, 11, 12] (fun v i _ _ _ wr => ∃ k : Nat, k ≤ n' ∧ i = .int .i64 k ∧ Below w.heap.size w wr ∧ wr.ownsRow w.heap.size 3 1 v (inflK p l k).length (i64s (inflK p l k))) (fun _ i _ _ _ _ => n' - (intOf i).toNat)
          case atStart => exact ⟨0, Nat.zero_le _, rfl, hbw2, hst⟩
          case round =>
            obtain ⟨k, hk, rfl, hbr, hown⟩ := hrel
            clear hst hbw2
            by_cases hlt2 : k < n'
            · obtain ⟨ad, u, rfl, _, hu, hc⟩ := ((unhide HC).below hbr).reads.at_ hlt2
              obtain ⟨x, hx, rfl⟩ := i64_at hu
              obtain ⟨ad', A1, c1, z, rfl, hz, hcell, hIz⟩ := (unhide HS).at_low hbr hlt2
              obtain ⟨hzl, hzs⟩ := unhide HSM z (List.mem_of_getElem? hz)
              have hAw := hIz.arg hzl hIz.cap hzs
              have hzP := allP_at (unhide HAP) (List.mem_of_getElem? hz)
              obtain ⟨m, hm⟩ : ∃ m, z.length = m := ⟨_, rfl⟩
              rw [hm] at hcell hzl hIz hAw
              have HM := hide hm
              have hm8 : m ≤ 8 := by have := isP_le hzP; omega
              have HZP := hide hzP
              have HA := hide hAw
              have HX := hide hx
              have HZ := hide hz
              have HK := hide (inflK_step hx hz)
              have HBT := hide (fun j => baseK_tot p l x j)
              have HTT := hide (fun j => tot_take l j)
              have HT8 : Hid (tot l ≤ 8) := hide (by
                have h1 := unhide HT n'
                rw [inflK_length, List.take_of_length_le (by rw [unhide HSL]; exact Nat.le_refl _)] at h1
                exact h1)
              obtain ⟨wo, rfl⟩ : ∃ wo : World, wo = wr := ⟨_, rfl⟩
              clear hu hx hz hIz hAw hzP hm hc hcell
              go_wp2
              go_loopw [10, 11] (fun bs i wi => ∃ j : Nat, j ≤ n' ∧ i = .int .i64 j ∧ bs = .int .i64 (baseK p l x j : Int) ∧ Drew wo wi) (fun _ i _ => n' - (intOf i).toNat)
              case atStart => exact ⟨0, Nat.zero_le _, rfl, rfl, Drew.refl _⟩
              case round =>
                obtain ⟨j, hj, rfl, rfl, hd⟩ := hrel
                have hbi := hbr.trans (hd.below w.heap.size)
                have hown1 := own_below hown (hd.below _)
                have hbt := unhide HBT j
                have htt := unhide HTT j
                have ht8 := unhide HT8
                by_cases hlt3 : j < n'
                · obtain ⟨ad2, u2, he2, _, hu2, hc2⟩ := ((unhide HC).below hbi).reads.at_ hlt3
                  injection he2 with he2
                  subst he2
                  obtain ⟨y, hy, rfl⟩ := i64_at hu2
                  obtain ⟨ad3, u3, he3, _, hu3, hc3⟩ := ((unhide HC).below hbi).reads.at_ hlt2
                  injection he3 with he3
                  subst he3
                  obtain ⟨x3, hx3, rfl⟩ := i64_at hu3
                  obtain rfl : x = x3 := by have := unhide HX; rw [hx3] at this; exact (Option.some.inj this).symm
                  obtain ⟨ad4, A4, c4, z4, he4, hz4, hcell4, _⟩ := (unhide HS).at_low hbi hlt3
                  injection he4 with he4
                  subst he4
                  have hzl4 := (unhide HSM z4 (List.mem_of_getElem? hz4)).1
                  obtain ⟨m4, hm4⟩ : ∃ m4, z4.length = m4 := ⟨_, rfl⟩
                  rw [hm4] at hcell4 hzl4
                  obtain ⟨b0, hb0⟩ : ∃ b0, b0 = baseK p l x j := ⟨_, rfl⟩
                  rw [← hb0] at hbt ⊢
                  have hb8 : b0 ≤ 8 := by omega
                  have HD := hide hd
                  clear hu2 hu3 hx3 hbt htt ht8 hd hown1
                  by_cases hyx : y < x
                  · have hs := hide (baseK_yes hy hz4 hyx)
                    rw [← hb0, hm4] at hs
                    clear hy hz4 hm4 hb0
                    go_wp2
                    go_quiet ((go_at_call 42; exact Calls.quiet_of_same (bit_true _)))
                    go_wp2
                    go_roundw
                    case rel => exact ⟨j + 1, by omega, by go_num, by rw [unhide hs]; go_num, (unhide HD).more _⟩
                    case measure => simp [intOf]; omega
                  · have hs := hide (baseK_no (l := l) hy hyx)
                    rw [← hb0] at hs
                    have hdf : decide (y < x) = false := by simpa using hyx
                    clear hy hz4 hm4 hb0
                    go_wp2
                    go_quiet ((go_at_call 42; exact Calls.quiet_of_same (bit_false _)))
                    go_wp2
                    go_roundw
                    case rel => exact ⟨j + 1, by omega, by go_num, by rw [unhide hs], (unhide HD).more _⟩
                    case measure => simp [intOf]; omega
                · obtain rfl : n' = j := by omega
                  obtain ⟨r, hr⟩ : ∃ r, r = baseK p l x n' := ⟨_, rfl⟩
                  rw [← hr] at hbt ⊢
                  have hr8 : r ≤ 8 := by omega
                  have HK2 : Hid (inflK p l (k + 1) = inflK p l k ++ z.map (fun v => v + (r : Int))) := hide (by rw [unhide HK, unhide HL, hr])
                  have hst : wr.ownsRow w.heap.size 3 1 u8 (inflK p l k ++ (z.take 0).map (fun v => v + (r : Int))).length (i64s (inflK p l k ++ (z.take 0).map (fun v => v + (r : Int)))) := by
                    rw [List.take_zero, List.map_nil, List.append_nil]; exact hown1
                  clear hown1 hbt htt ht8 hd hown hbr hr
                  go_wp2
                  go_loopw [8, 12] (fun v i wi => ∃ j : Nat, j ≤ m ∧ i = .int .i64 j ∧ Below w.heap.size w wi ∧ wi.ownsRow w.heap.size 3 1 v (inflK p l k ++ (z.take j).map (fun v => v + (r : Int))).length (i64s (inflK p l k ++ (z.take j).map (fun v => v + (r : Int))))) (fun _ i _ => m - (intOf i).toNat)
                  case atStart => exact ⟨0, Nat.zero_le _, rfl, hbi, hst⟩
                  case round =>
                    obtain ⟨j, hj, rfl, hbi, hown⟩ := hrel
                    clear hst
                    obtain ⟨ad4, A4, c4, z4, he4, hz4, hcell4, hIz4⟩ := (unhide HS).at_low hbi hlt2
                    injection he4 with he4
                    subst he4
                    obtain ⟨hzl4, hzs4⟩ := unhide HSM z4 (List.mem_of_getElem? hz4)
                    have hA4 := (hIz4.arg hzl4 hIz4.cap hzs4).below hbi
                    obtain rfl : z4 = z := by
                      have h1 := unhide HZ
                      rw [hz4] at h1
                      exact Option.some.inj h1
                    rw [unhide HM] at hcell4 hA4
                    by_cases hjm : j < m
                    · obtain ⟨ad3, u3, rfl, _, hu3, hc3⟩ := hA4.reads.at_ hjm
                      obtain ⟨y, hy, rfl⟩ := i64_at hu3
                      have hyr := isP_range (unhide HZP) hy
                      rw [unhide HM] at hyr
                      have hlj : (inflK p l k ++ (z4.take j).map (fun v => v + (r : Int))).length ≤ 72 := by
                        have := List.length_take_le j z4
                        have := unhide HT k
                        rw [List.length_append, List.length_map]; omega
                      have hnx := hide (congrArg (inflK p l k ++ ·) (map_take_one (r : Int) hy))
                      obtain ⟨R, hR⟩ : ∃ R, R = inflK p l k ++ (z4.take j).map (fun v => v + (r : Int)) := ⟨_, rfl⟩
                      rw [← hR] at hown hlj
                      have HRR := hide hR
                      clear hu3 hy hR hz4 hIz4 hA4
                      go_wp2_with (first
                        | (at_builtin; refine wpList_append_one rfl (.tmp 93) (.tmp 103) 24 rfl w.heap.size 3 i0 (.int .i64 0) 8 Try.underlying24 hi hz0 hz1 hz2 rfl w wr _ _ _ rfl hown (.int .i64 ((r : Int) + y)) rfl rfl rfl (by omega) (by unfold maxLen; omega) hbi hbi.size ?_))
                      intro v2 w4 hown4 hb4 _
                      have hown5 : w4.ownsRow w.heap.size 3 1 v2 (inflK p l k ++ (z4.take (j + 1)).map (fun v => v + (r : Int))).length (i64s (inflK p l k ++ (z4.take (j + 1)).map (fun v => v + (r : Int)))) := by
                        have e := unhide hnx
                        rw [e, ← List.append_assoc, ← unhide HRR, ← i64_snoc3, List.length_append, Int.add_comm y]
                        exact hown4
                      clear hown hown4 hbi
                      go_wp2
                      go_roundw
                      case rel => exact ⟨j + 1, by omega, by go_num, hb4, hown5⟩
                      case measure => simp [intOf]; omega
                    · obtain rfl : m = j := by omega
                      have hown5 : wr.ownsRow w.heap.size 3 1 u8 (inflK p l (k + 1)).length (i64s (inflK p l (k + 1))) := by
                        rw [unhide HK2]
                        have e : z4.take m = z4 := List.take_of_length_le (by rw [unhide HM]; exact Nat.le_refl _)
                        rw [e] at hown
                        exact hown
                      clear hown hz4 hIz4 hA4
                      go_wp2
                      go_roundw
                      case rel => exact ⟨k + 1, by omega, by go_num, hbi, hown5⟩
                      case measure => simp [intOf]; omega
            · obtain rfl : n' = k := by omega
              have hI : Ints wr w.heap.size u8 (inflK p l n') := Ints.of_own hown
              clear hown
              go_wp2
              go_ret2
              rw [(unhide HE).1, (unhide HE).2]
              exact GivesIB.mk _ hI hbr
end Go.Proofs.Ytoiflglccbemeaa
